package image_test

import (
	"bytes"
	"encoding/binary"
	"fmt"
	"math"
	"math/rand"
	"slices"
	"testing"

	"pleat/api"
	"pleat/image"
)

// sumOf reckons the sum from the right: each byte times its power of 31.
func sumOf(b []byte) uint32 {
	sum, power := uint64(0), uint64(1)
	for _, c := range slices.Backward(b) {
		sum = (sum + power*uint64(c)) % (1 << 32)
		power = power * 31 % (1 << 32)
	}
	return uint32(sum)
}

func summed(b []byte) []byte { return binary.BigEndian.AppendUint32(slices.Clone(b), sumOf(b)) }

// draft tells the bytes of an image ahead of the sum, whether it may be or not.
func draft(x api.Image) []byte {
	b := binary.BigEndian.AppendUint32([]byte("PLI1"), uint32(len(x.Text)))
	for _, w := range x.Text {
		b = binary.BigEndian.AppendUint32(b, w)
	}
	b = binary.BigEndian.AppendUint32(b, uint32(x.Entry))
	b = binary.BigEndian.AppendUint32(b, uint32(len(x.Memory)))
	for _, n := range x.Memory {
		b = binary.BigEndian.AppendUint64(b, uint64(n))
	}
	return b
}

func bytesOf(x api.Image) []byte { return summed(draft(x)) }

// Where the numbers of an image's bytes begin.
const textAt = 4

func entryAt(x api.Image) int  { return 8 + 4*len(x.Text) }
func memoryAt(x api.Image) int { return entryAt(x) + 4 }

// with tells the bytes with another number there, and a right sum.
func with(x api.Image, at int, n uint32) []byte {
	b := draft(x)
	binary.BigEndian.PutUint32(b[at:], n)
	return summed(b)
}

func reads(t *testing.T, what string, b []byte, want api.Image) {
	t.Helper()
	if x, e, at := image.Read(b); e != api.OK || at != 0 || !same(x, want) {
		t.Errorf("%s: Read is %#v, %d at %d; not %#v", what, x, e, at, want)
	}
}

func refuses(t *testing.T, what string, b []byte, e api.Errno, at int) {
	t.Helper()
	x, gotE, got := image.Read(b)
	if gotE != e || got != at {
		t.Errorf("P7.3: %s: Read is %d at %d; not %d at %d", what, gotE, got, e, at)
	}
	if !same(x, api.Image{}) {
		t.Errorf("R2: %s: beside the error Read tells %#v", what, x)
	}
}

func samples() []api.Image {
	memory := api.Image{Text: []uint32{trap}, Memory: []int64{0, 0, 0}}
	return []api.Image{text(halt), text(jump(1), trap), sample(), memory}
}

func TestReadExamples(t *testing.T) {
	b := []byte{80, 76, 73, 49, 0, 0, 0, 1, 168, 0, 0, 0, 0, 0, 0, 0, 0, 0, 0, 0, 234, 92, 136, 221}
	reads(t, "P7.3: halt", b, text(halt))
	refuses(t, "nothing", nil, api.ErrBytes, 0)
	refuses(t, "R4: nothing", []byte{}, api.ErrBytes, 0)
	refuses(t, "P, L, I, 2", []byte{80, 76, 73, 50}, api.ErrBytes, 3)
	refuses(t, "without the last", b[:23], api.ErrBytes, 23)
	refuses(t, "with one more", append(slices.Clone(b), 0), api.ErrBytes, 24)
	for at := 12; at < 16; at++ {
		c := slices.Clone(b)
		c[at] = 1
		refuses(t, "with another Entry byte", c, api.ErrSum, 20)
	}
}

func TestReadBeginning(t *testing.T) {
	right := bytesOf(sample())
	for k := range 4 {
		for c := range 256 {
			if byte(c) == right[k] {
				continue
			}
			b := slices.Clone(right)
			b[k] = byte(c)
			refuses(t, "another beginning", b, api.ErrBytes, k)
			refuses(t, "another beginning that ends there", b[:k+1], api.ErrBytes, k)
			refuses(t, "another beginning with a right sum", summed(b[:len(b)-4]), api.ErrBytes, k)
			b[3] = 0
			refuses(t, "another beginning twice", b, api.ErrBytes, k)
		}
	}
	refuses(t, "an object's beginning", []byte("PLO1"), api.ErrBytes, 2)
}

func TestReadEachBeginningOfBytes(t *testing.T) {
	for _, x := range samples() {
		b := bytesOf(x)
		for length := range b {
			refuses(t, "too short", b[:length:length], api.ErrBytes, length)
			// What lies behind the end is no part of the bytes.
			refuses(t, "too short, with room", b[:length], api.ErrBytes, length)
		}
	}
}

func TestReadCountsAtTheirLimits(t *testing.T) {
	r := rand.New(rand.NewSource(70))
	x := api.Image{Text: make([]uint32, 16384), Entry: 16383, Memory: make([]int64, 4096)}
	for k := range 16383 {
		x.Text[k] = place(r.Intn(16), r.Intn(16384))
	}
	for k := range x.Memory {
		x.Memory[k] = int64(r.Uint64())
	}
	b := bytesOf(x)
	if got, e, at := image.Read(b); e != api.OK || at != 0 || !same(got, x) {
		t.Errorf("P7.3: all at its limit: Read is %d at %d", e, at)
	}
	if got, e := image.Write(x); e != api.OK || !bytes.Equal(got, b) {
		t.Errorf("P7.2: all at its limit: Write is %d", e)
	}
	for _, length := range []int{8, 9, 11, 12, 65536, 65543, 65544, 65547, 65548, 65551, 65552, 65559, len(b) - 12, len(b) - 5, len(b) - 4, len(b) - 1} {
		refuses(t, "counts at their limits, and too few words behind", b[:length], api.ErrBytes, length)
	}
}

func TestReadCountsAboveTheirLimits(t *testing.T) {
	for _, x := range samples() {
		for at, most := range map[int]uint32{textAt: 16384, memoryAt(x): 4096} {
			for _, n := range []uint32{most + 1, most + 2, most + 256, most + 65536, 1 << 24, math.MaxInt32, 1 << 31, math.MaxUint32} {
				b := with(x, at, n)
				refuses(t, fmt.Sprintf("a count of %d", n), b, api.ErrBytes, at)
				refuses(t, fmt.Sprintf("a count of %d at the very end", n), b[:at+4], api.ErrBytes, at)
				refuses(t, fmt.Sprintf("a count of %d and one byte", n), b[:at+5], api.ErrBytes, at)
				// Ahead of its last byte nobody knows the number.
				refuses(t, fmt.Sprintf("a count of %d, cut", n), b[:at+3], api.ErrBytes, at+3)
			}
			b := with(x, at, most)
			refuses(t, fmt.Sprintf("a count of %d at the very end", most), b[:at+4], api.ErrBytes, at+4)
			refuses(t, fmt.Sprintf("a count of %d and one byte", most), b[:at+5], api.ErrBytes, at+5)
			refuses(t, fmt.Sprintf("a count of %d and too few words", most), b, api.ErrBytes, len(b))
		}
	}
	long := bytesOf(text(make([]uint32, 16385)...))
	refuses(t, "a text of MaxText + 1 with all its words", long, api.ErrBytes, 4)
	large := bytesOf(api.Image{Text: []uint32{halt}, Memory: make([]int64, 4097)})
	refuses(t, "a memory of MaxMemory + 1 with all its words", large, api.ErrBytes, 16)
}

func TestReadLeftFirst(t *testing.T) {
	x := sample()
	for _, n := range []uint32{16385, math.MaxUint32} {
		b := with(x, textAt, n)
		binary.BigEndian.PutUint32(b[memoryAt(x):], n)
		refuses(t, "both counts", b, api.ErrBytes, textAt)
		refuses(t, "both counts and a byte more", append(slices.Clone(b), 0), api.ErrBytes, textAt)
		refuses(t, "both counts and a byte less", b[:len(b)-1], api.ErrBytes, textAt)
		c := with(x, memoryAt(x), n)
		refuses(t, "the memory's count and a byte more", append(slices.Clone(c), 0), api.ErrBytes, memoryAt(x))
		refuses(t, "the memory's count and a byte less", c[:len(c)-1], api.ErrBytes, memoryAt(x))
		refuses(t, "the memory's count behind the end", c[:memoryAt(x)], api.ErrBytes, memoryAt(x))
		b[2] = 0
		refuses(t, "the beginning and both counts", b, api.ErrBytes, 2)
	}
	// A count that is otherwise moves all that follows: here Entry, 3, is how many words the memory has.
	b := with(x, textAt, 8)
	refuses(t, "a text of one word less", b, api.ErrBytes, 8+4*8+8+8*3+4)
	b = with(text(halt, halt, halt, halt), textAt, 2)
	refuses(t, "a text of two words less", b, api.ErrBytes, 20)
	b = with(text(1, 2, 0, 0), textAt, 2)
	refuses(t, "a text of two words less, and room behind the sum", b, api.ErrBytes, 28)
}

func TestReadEntry(t *testing.T) {
	x := sample()
	for n := range uint32(len(x.Text)) {
		x.Entry = int(n)
		reads(t, "P7.3: an Entry", with(sample(), entryAt(x), n), x)
	}
	for _, n := range []uint32{uint32(len(x.Text)), 256, 65536, 1 << 24, math.MaxInt32, 1 << 31, 1<<31 + 1, math.MaxUint32 - 1, math.MaxUint32} {
		refuses(t, fmt.Sprintf("an Entry of %d", int32(n)), with(x, entryAt(x), n), api.ErrEntry, 0)
	}
}

// unfit are images that may not be, but have bytes within the limits.
func unfit() map[string]api.Image {
	end, target, first := sample(), sample(), sample()
	end.Text[8] = calls(3)
	target.Text[3] = place(3, 9)
	first.Text[0], first.Text[8] = zero(1, 16383), call(9)
	below := sample()
	below.Entry = -1
	return map[string]api.Image{
		"no text": {}, "no text but memory": {Memory: []int64{1, 2}, Entry: 7}, "an Entry behind": {Text: []uint32{halt}, Entry: 1}, "an Entry below": below,
		"calls at the end": end, "no instruction at the end": text(halt, halt, 1), "a place behind": target, "two places behind": first,
		"an Entry, a place and no end": {Text: []uint32{call(1)}, Entry: 1}, "a place and no end": text(call(1)),
	}
}

func TestReadImageThatMayNotBe(t *testing.T) {
	want := map[string]fault{
		"no text": {e: api.ErrImage}, "no text but memory": {e: api.ErrImage}, "an Entry behind": {e: api.ErrEntry}, "an Entry below": {e: api.ErrEntry},
		"calls at the end": {e: api.ErrImage, number: 8}, "no instruction at the end": {e: api.ErrImage, number: 2}, "a place behind": {e: api.ErrPlace, number: 3},
		"two places behind": {e: api.ErrPlace}, "an Entry, a place and no end": {e: api.ErrEntry}, "a place and no end": {e: api.ErrPlace},
	}
	for what, x := range unfit() {
		checks(t, what, x, want[what].e, want[what].number)
		b := bytesOf(x)
		refuses(t, what, b, want[what].e, want[what].number)
		refuses(t, "a byte more ahead of "+what, append(slices.Clone(b), 0), api.ErrBytes, len(b))
		refuses(t, "a byte less ahead of "+what, b[:len(b)-1], api.ErrBytes, len(b)-1)
		b[len(b)-1]++
		refuses(t, "a wrong sum ahead of "+what, b, api.ErrSum, len(b)-4)
	}
}

func TestReadEnd(t *testing.T) {
	for _, x := range samples() {
		right := bytesOf(x)
		end := len(right)
		for k := end - 4; k < end; k++ {
			wrong := slices.Clone(right)
			wrong[k] ^= 64
			refuses(t, "a wrong sum", wrong, api.ErrSum, end-4)
			for _, more := range [][]byte{{0}, {255}, {0, 0, 0, 0}, right, make([]byte, 70000)} {
				refuses(t, "more behind a right sum", append(slices.Clone(right), more...), api.ErrBytes, end)
				// The document names the byte behind the sum ahead of the sum.
				refuses(t, "more behind a wrong sum", append(slices.Clone(wrong), more...), api.ErrBytes, end)
			}
		}
		refuses(t, "a sum of the sum, too", summed(right), api.ErrBytes, end)
	}
}

func TestOneByteOtherwise(t *testing.T) {
	for _, x := range append(samples(), text(make([]uint32, 40)...), api.Image{Text: make([]uint32, 5), Memory: make([]int64, 9)}) {
		b := bytesOf(x)
		for k, was := range b {
			for c := range 256 {
				if byte(c) == was {
					continue
				}
				b[k] = byte(c)
				if got, e, _ := image.Read(b); e != api.ErrBytes && e != api.ErrSum || !same(got, api.Image{}) {
					t.Errorf("What follows: the byte %d of %#v is %d, not %d: Read is %#v, %d", k, x, c, was, got, e)
				}
			}
			b[k] = was
		}
		reads(t, "What follows: as it was", b, x)
	}
}

// TestByteAndSumOtherwise: a byte that is changed together with the sum is not found out, as it is another image's.
func TestByteAndSumOtherwise(t *testing.T) {
	x := sample()
	b := draft(x)
	at := memoryAt(x) + 4 + 7
	b[at] = 9
	x.Memory[0] = -247
	reads(t, "What follows: a byte and the sum", summed(b), x)
}

func TestThereAndBack(t *testing.T) {
	r := rand.New(rand.NewSource(6))
	for range 30000 {
		x := fit(r, anyImage(r))
		b, e := image.Write(x)
		if e != api.OK || !bytes.Equal(b, bytesOf(x)) {
			t.Fatalf("P7.2: %#v: Write is %v, %d", x, b, e)
		}
		back, e, at := image.Read(b)
		if e != api.OK || at != 0 || !same(back, x) {
			t.Fatalf("W6: %#v: Read of Write is %#v, %d at %d", x, back, e, at)
		}
		if again, e := image.Write(back); e != api.OK || !bytes.Equal(again, b) {
			t.Fatalf("W6: %v: Write of Read is %v, %d", b, again, e)
		}
	}
}

// readPlainly reckons what Read is to answer, from where things must lie.
func readPlainly(b []byte) (api.Image, api.Errno, int) {
	none, size := api.Image{}, len(b)
	for k, c := range []byte("PLI1") {
		if k == size || b[k] != c {
			return none, api.ErrBytes, k
		}
	}
	if size < 8 {
		return none, api.ErrBytes, size
	}
	words := int(binary.BigEndian.Uint32(b[4:]))
	if words > 16384 {
		return none, api.ErrBytes, 4
	}
	entry := 8 + 4*words
	if size < entry+8 {
		return none, api.ErrBytes, size
	}
	cells := int(binary.BigEndian.Uint32(b[entry+4:]))
	if cells > 4096 {
		return none, api.ErrBytes, entry + 4
	}
	sum := entry + 8 + 8*cells
	switch {
	case size < sum+4:
		return none, api.ErrBytes, size
	case size > sum+4:
		return none, api.ErrBytes, sum + 4
	case binary.BigEndian.Uint32(b[sum:]) != sumOf(b[:sum]):
		return none, api.ErrSum, sum
	}
	x := api.Image{Entry: int(int32(binary.BigEndian.Uint32(b[entry:])))}
	for k := range words {
		x.Text = append(x.Text, binary.BigEndian.Uint32(b[8+4*k:]))
	}
	for k := range cells {
		x.Memory = append(x.Memory, int64(binary.BigEndian.Uint64(b[entry+8+8*k:])))
	}
	if e, number := plainly(x); e != api.OK {
		return none, e, number
	}
	return x, api.OK, 0
}

// anyBytes tells those of an image, with some of its numbers and bytes otherwise, cut or with more behind.
func anyBytes(r *rand.Rand) []byte {
	x := anyImage(r)
	if r.Intn(2) == 0 {
		x = fit(r, x)
	}
	b := draft(x)
	for range r.Intn(2) {
		at := []int{textAt, entryAt(x), memoryAt(x)}[r.Intn(3)]
		n := []uint32{0, 1, 2, 3, 4, 5, 6, 7, 4096, 4097, 16384, 16385, math.MaxInt32, 1 << 31, math.MaxUint32}[r.Intn(15)]
		binary.BigEndian.PutUint32(b[at:], n)
	}
	if r.Intn(4) == 0 {
		b[r.Intn(len(b))] = byte(r.Intn(256))
	}
	switch r.Intn(8) {
	case 0:
		b = b[:r.Intn(len(b))]
	case 1:
		b = append(b, make([]byte, r.Intn(40))...)
	}
	switch r.Intn(6) {
	case 0:
	case 1:
		b = binary.BigEndian.AppendUint32(b, sumOf(b)^1<<r.Intn(32))
	default:
		b = summed(b)
	}
	return b
}

func TestReadAsPlainlyReckoned(t *testing.T) {
	r := rand.New(rand.NewSource(73))
	told := map[api.Errno]int{}
	for range 200000 {
		b := anyBytes(r)
		want, e, at := readPlainly(b)
		told[e]++
		got, gotE, gotAt := image.Read(b)
		if gotE != e || gotAt != at || !same(got, want) {
			t.Fatalf("P7.3: %v: Read is %#v, %d at %d; not %#v, %d at %d", b, got, gotE, gotAt, want, e, at)
		}
		if e != api.OK {
			continue
		}
		if again, e := image.Write(got); e != api.OK || !bytes.Equal(again, b) {
			t.Fatalf("W6: %v: Write of Read is %v, %d", b, again, e)
		}
	}
	for _, e := range []api.Errno{api.OK, api.ErrImage, api.ErrEntry, api.ErrPlace, api.ErrBytes, api.ErrSum} {
		if told[e] < 1000 {
			t.Errorf("the bytes are too much alike: %d have the error %d", told[e], e)
		}
	}
}

func TestBytesAreLeft(t *testing.T) {
	right := bytesOf(sample())
	wrong := slices.Clone(right)
	wrong[len(wrong)-1]++
	for what, b := range map[string][]byte{"right": right, "wrong": wrong, "short": right[:50], "long": append(slices.Clone(right), 1, 2), "none": nil} {
		given, kept := withRoom(b, 99), withRoom(b, 99)
		x, e, at := image.Read(given)
		sum := image.Sum(given)
		if !bytes.Equal(given[:cap(given)], kept[:cap(kept)]) {
			t.Errorf("R5: %s: Read or Sum changed the bytes", what)
		}
		again, againE, againAt := image.Read(given)
		if !same(x, again) || e != againE || at != againAt || sum != image.Sum(given) {
			t.Errorf("R6: %s: another answer to the same bytes", what)
		}
	}
}

func TestReadAnswersAreNew(t *testing.T) {
	given := bytesOf(sample())
	x, _, _ := image.Read(given)
	second, _, _ := image.Read(given)
	for k := range given {
		given[k] = 2
	}
	if !same(x, sample()) {
		t.Errorf("R5: Read keeps the bytes that it was given")
	}
	x = whole(x)
	for k := range x.Text {
		x.Text[k] = 3
	}
	for k := range x.Memory {
		x.Memory[k] = 3
	}
	if !same(second, sample()) {
		t.Errorf("R5: two answers of Read share memory")
	}
}
