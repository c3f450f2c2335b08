package frame_test

import (
	"bytes"
	"hash/crc32"
	"math"
	"strings"
	"testing"

	"arbor/api"
	"arbor/frame"
)

// sumByBits: the sum as the chapter tells it, a bit at a time.
func sumByBits(register uint32, b []byte) uint32 {
	for _, c := range b {
		for weight := 1; weight <= 128; weight *= 2 {
			bit := uint32(0)
			if int(c)&weight != 0 {
				bit = 1
			}
			unlike := register%2 != bit
			register /= 2
			if unlike {
				register ^= 0xEDB88320
			}
		}
	}
	return ^register
}

// mixed: n bytes without a plain pattern, others for another seed.
func mixed(n int, seed uint32) []byte {
	b := make([]byte, n)
	for i := range b {
		seed = seed*1664525 + 1013904223
		b[i] = byte(seed >> 24)
	}
	return b
}

func mustSeal(t *testing.T, f api.Frame, size int) []byte {
	t.Helper()
	b, e := frame.Seal(f, size)
	if e != api.OK || len(b) != size {
		t.Fatalf("Seal(kind %d, gen %d, %d bytes, %d) = %d bytes, %d", f.Kind, f.Gen, len(f.Body), size, len(b), e)
	}
	return b
}

// resealed: b with the sum made right that its last four bytes are.
func resealed(b []byte) []byte {
	own := bytes.Clone(b)
	n := len(own) - 4
	sum := crc32.ChecksumIEEE(own[:n])
	for i := range 4 {
		own[n+i] = byte(sum >> (8 * i))
	}
	return own
}

func wantOpen(t *testing.T, b []byte, want api.Frame) {
	t.Helper()
	f, e := frame.Open(b)
	if e != api.OK || f.Kind != want.Kind || f.Gen != want.Gen || !bytes.Equal(f.Body, want.Body) {
		t.Fatalf("Open(% x) = %v, %d, want %v", b, f, e, want)
	}
}

func wantDamaged(t *testing.T, b []byte) {
	t.Helper()
	if f, e := frame.Open(b); e != api.ErrDamaged || f.Kind != 0 || f.Gen != 0 || len(f.Body) != 0 {
		t.Fatalf("Open(% x) = %v, %d, want the zero frame and %d", b, f, e, api.ErrDamaged)
	}
}

// P2.1: every text of one byte, every length up to some blocks, held against the chapter's steps and the library's sum.
func TestSum(t *testing.T) {
	if s := frame.Sum(nil); s != 0 {
		t.Fatalf("Sum(nil) = %08x", s)
	}
	for c := range 256 {
		b := []byte{byte(c)}
		if got, want := frame.Sum(b), sumByBits(0xFFFFFFFF, b); got != want {
			t.Fatalf("Sum(%02x) = %08x, want %08x", b, got, want)
		}
	}
	for n := range 600 {
		for seed := range uint32(3) {
			b := mixed(n, seed)
			got, want := frame.Sum(b), sumByBits(0xFFFFFFFF, b)
			if got != want || want != crc32.ChecksumIEEE(b) {
				t.Fatalf("Sum of %d bytes = %08x, want %08x", n, got, want)
			}
		}
	}
	long := mixed(1<<20+3, 9)
	if got, want := frame.Sum(long), crc32.ChecksumIEEE(long); got != want {
		t.Fatalf("Sum of %d bytes = %08x, want %08x", len(long), got, want)
	}
}

// P2.2: whatever the number, and wherever a text is cut.
func TestExtend(t *testing.T) {
	text := mixed(300, 4)
	for cut := range len(text) + 1 {
		if got, want := frame.Extend(frame.Sum(text[:cut]), text[cut:]), frame.Sum(text); got != want {
			t.Fatalf("Extend behind %d bytes = %08x, want %08x", cut, got, want)
		}
	}
	numbers := []uint32{0, 1, 12345, 0x80000000, 0x7FFFFFFF, 0xEDB88320, 0xFFFFFFFF}
	for place := range 32 {
		numbers = append(numbers, 1<<place)
	}
	for _, sum := range numbers {
		for n := range 20 {
			b := mixed(n, sum)
			if got, want := frame.Extend(sum, b), sumByBits(^sum, b); got != want {
				t.Fatalf("Extend(%08x, % x) = %08x, want %08x", sum, b, got, want)
			}
		}
		if got := frame.Extend(sum, nil); got != sum {
			t.Fatalf("Extend(%08x, nil) = %08x", sum, got)
		}
	}
}

// P2.3: every number around the sizes, and those far off.
func TestRoom(t *testing.T) {
	for size := -20; size < 9000; size++ {
		want := 0
		if size >= 15 && size <= 8192 {
			want = size - 15
		}
		if got := frame.Room(size); got != want {
			t.Fatalf("Room(%d) = %d, want %d", size, got, want)
		}
	}
	for _, size := range []int{math.MinInt, math.MinInt32, math.MaxInt32, 1<<32 + 20, 1 << 62, math.MaxInt} {
		if got := frame.Room(size); got != 0 {
			t.Fatalf("Room(%d) = %d, want 0", size, got)
		}
	}
}

// P2.4, P2.5: each part of a frame lies where the table says, lowest byte first.
func TestSealLayout(t *testing.T) {
	f := api.Frame{Kind: 0xA1, Gen: 0x0807060504030201, Body: bytes.Repeat([]byte{0xB2}, 0x0102)}
	size := 400
	b := mustSeal(t, f, size)
	want := []byte{0xA1, 0x02, 0x01, 1, 2, 3, 4, 5, 6, 7, 8}
	want = append(want, f.Body...)
	want = append(want, make([]byte, size-4-len(want))...)
	sum := sumByBits(0xFFFFFFFF, want)
	want = append(want, byte(sum), byte(sum>>8), byte(sum>>16), byte(sum>>24))
	if !bytes.Equal(b, want) {
		t.Fatalf("Seal = % x, want % x", b, want)
	}
	wantOpen(t, b, f)
}

// P2.4, P2.5: every kind, generations of all widths, every body's length in small sizes.
func TestSealOpenRoundTrip(t *testing.T) {
	for kind := range 256 {
		f := api.Frame{Kind: byte(kind), Gen: uint64(kind) << 32, Body: []byte{byte(kind)}}
		wantOpen(t, mustSeal(t, f, 32), f)
	}
	for place := range 64 {
		for _, gen := range []uint64{1 << place, 1<<place - 1, ^uint64(0) << place} {
			f := api.Frame{Kind: api.KindSuper, Gen: gen}
			wantOpen(t, mustSeal(t, f, 15), f)
		}
	}
	for size := 15; size <= 80; size++ {
		for n := range size - 14 {
			f := api.Frame{Kind: api.KindLeaf, Gen: 7, Body: mixed(n, uint32(size))}
			b := mustSeal(t, f, size)
			wantOpen(t, b, f)
			if sum := frame.Sum(b); sum != 0x2144DF1C {
				t.Fatalf("the sum of a whole frame = %08x", sum)
			}
		}
	}
	for _, size := range []int{255, 256, 257, 1024, 4096, 8191, 8192} {
		for _, n := range []int{0, 1, 240, size - 16, size - 15} {
			f := api.Frame{Kind: api.KindInner, Gen: 1 << 40, Body: mixed(n, 1)}
			wantOpen(t, mustSeal(t, f, size), f)
		}
	}
}

// P2.4: a body of zeros and an empty one differ in the length alone; a nil body is an empty one.
func TestSealEmptyBody(t *testing.T) {
	none := mustSeal(t, api.Frame{Kind: 1, Gen: 2}, 24)
	empty := mustSeal(t, api.Frame{Kind: 1, Gen: 2, Body: []byte{}}, 24)
	if !bytes.Equal(none, empty) {
		t.Fatalf("a nil body: % x, an empty one: % x", none, empty)
	}
	zero := api.Frame{Kind: 1, Gen: 2, Body: make([]byte, 9)}
	wantOpen(t, none, api.Frame{Kind: 1, Gen: 2})
	wantOpen(t, mustSeal(t, zero, 24), zero)
}

// P2.4: a wrong size goes ahead of a body that is too long; nothing else is answered.
func TestSealRefuses(t *testing.T) {
	refused := func(n, size int, want api.Errno) {
		t.Helper()
		if b, e := frame.Seal(api.Frame{Kind: 1, Gen: 1, Body: make([]byte, n)}, size); e != want || len(b) != 0 {
			t.Fatalf("Seal of %d bytes, %d = %d bytes, %d, want %d", n, size, len(b), e, want)
		}
	}
	for _, size := range []int{math.MinInt, -15, -1, 0, 1, 11, 14, 8193, 1 << 16, 1<<32 + 15, math.MaxInt} {
		for _, n := range []int{0, 1, 9000, 70000} {
			refused(n, size, api.ErrArg)
		}
	}
	for _, size := range []int{15, 16, 17, 64, 256, 8191, 8192} {
		refused(size-14, size, api.ErrLong)
		refused(1<<16+size-15, size, api.ErrLong)
	}
	refused(1<<16, 15, api.ErrLong)
}

// P2.5: bytes whose length is no size, however right their sum.
func TestOpenRefusesLengths(t *testing.T) {
	wantDamaged(t, nil)
	for n := range 15 {
		wantDamaged(t, make([]byte, n))
		if n >= 4 {
			wantDamaged(t, resealed(make([]byte, n)))
		}
	}
	for _, n := range []int{8193, 8194, 9000, 1 << 16, 1 << 20} {
		wantDamaged(t, resealed(make([]byte, n)))
	}
	wantOpen(t, resealed(make([]byte, 8192)), api.Frame{})
	wantOpen(t, resealed(make([]byte, 15)), api.Frame{})
}

// P2.5: with the sum right, the length decides, and the zeros behind the body.
func TestOpenRefusesLongBodies(t *testing.T) {
	for _, size := range []int{15, 16, 20, 300} {
		b := make([]byte, size)
		for n := range 1 << 16 {
			b[1], b[2] = byte(n), byte(n>>8)
			if n <= size-15 {
				wantOpen(t, resealed(b), api.Frame{Body: make([]byte, n)})
			} else {
				wantDamaged(t, resealed(b))
			}
		}
	}
}

// P2.5: any bit between body and sum, with the sum made right; the same bits within the body are its own.
func TestOpenRefusesFill(t *testing.T) {
	size := 40
	for n := range size - 14 {
		b := mustSeal(t, api.Frame{Kind: 3, Gen: 4, Body: mixed(n, 2)}, size)
		for at := 11; at < size-4; at++ {
			for bit := range 8 {
				d := bytes.Clone(b)
				d[at] ^= 1 << bit
				d = resealed(d)
				if at < 11+n {
					wantOpen(t, d, api.Frame{Kind: 3, Gen: 4, Body: d[11 : 11+n]})
				} else {
					wantDamaged(t, d)
				}
			}
		}
	}
}

// P2.5: a wrong sum, its bytes turned round, a frame cut or grown.
func TestOpenRefusesSums(t *testing.T) {
	b := mustSeal(t, api.Frame{Kind: 5, Gen: 6, Body: []byte("hello")}, 24)
	for at := 20; at < 24; at++ {
		for x := 1; x < 256; x++ {
			d := bytes.Clone(b)
			d[at] ^= byte(x)
			wantDamaged(t, d)
		}
	}
	d := bytes.Clone(b)
	d[20], d[21], d[22], d[23] = d[23], d[22], d[21], d[20]
	wantDamaged(t, d)
	for n := range len(b) {
		wantDamaged(t, b[:n])
	}
	wantDamaged(t, append(bytes.Clone(b), 0))
	wantDamaged(t, append([]byte{0}, b...))
	wantDamaged(t, append(bytes.Clone(b), b...))
}

// What follows: of all texts that Open takes, Seal gives that text again.
func TestOpenTakesWhatSealGives(t *testing.T) {
	taken := 0
	for seed := range uint32(20000) {
		b := mixed(15+int(seed%9), seed)
		b[1], b[2] = b[1]%10, 0
		for at := 11 + int(b[1]); at < len(b)-4 && seed%3 > 0; at++ {
			b[at] = 0
		}
		b = resealed(b)
		f, e := frame.Open(b)
		if e != api.OK {
			wantDamaged(t, b)
			continue
		}
		taken++
		if again := mustSeal(t, f, len(b)); !bytes.Equal(again, b) {
			t.Fatalf("Open(% x), then Seal = % x", b, again)
		}
	}
	if taken == 0 || taken == 20000 {
		t.Fatalf("%d texts are taken: the test tells nothing", taken)
	}
}

// What follows: zeros alone are no frame.
func TestZerosAreDamaged(t *testing.T) {
	for n := range 8200 {
		wantDamaged(t, make([]byte, n))
	}
}

// turned: b with the bits of pattern turned, from bit number at on.
func turned(b []byte, at int, pattern uint32) []byte {
	d := bytes.Clone(b)
	for i := range 32 {
		if pattern>>i&1 == 1 {
			d[(at+i)/8] ^= 1 << ((at + i) % 8)
		}
	}
	return d
}

// What follows: a run of up to 32 bits, anywhere. Runs of up to 9 bits all of them, longer ones by samples.
func TestRunsAreTold(t *testing.T) {
	frames := [][]byte{
		mustSeal(t, api.Frame{}, 15),
		mustSeal(t, api.Frame{Kind: 1, Gen: 258, Body: []byte("ab")}, 20),
		mustSeal(t, api.Frame{Kind: 'W', Gen: math.MaxUint64, Body: mixed(17, 3)}, 32),
	}
	for _, b := range frames {
		bits := 8 * len(b)
		for at := range bits {
			for pattern := uint32(1); pattern < 512; pattern += 2 {
				if at+9 <= bits || pattern>>(bits-at) == 0 {
					wantDamaged(t, turned(b, at, pattern))
				}
			}
			seed := uint32(at)
			for range 200 {
				seed = seed*1664525 + 1013904223
				if pattern := seed | 1; at+32 <= bits {
					wantDamaged(t, turned(b, at, pattern))
					wantDamaged(t, turned(b, at, 1|1<<31|1<<(seed>>27)))
				}
			}
			if at+32 <= bits {
				wantDamaged(t, turned(b, at, 0xFFFFFFFF))
			}
		}
	}
}

// What follows: the sum of three texts' xor.
func TestSumOfThree(t *testing.T) {
	for n := range 64 {
		a, b, c := mixed(n, 1), mixed(n, 2), mixed(n, 3)
		x := make([]byte, n)
		for i := range x {
			x[i] = a[i] ^ b[i] ^ c[i]
		}
		if got, want := frame.Sum(x), frame.Sum(a)^frame.Sum(b)^frame.Sum(c); got != want {
			t.Fatalf("the sum of an xor of %d bytes = %08x, want %08x", n, got, want)
		}
	}
}

// P2.6: what is answered is new memory, its spare room too.
func TestAnswersAreNewMemory(t *testing.T) {
	room := []byte("abcdefgh" + strings.Repeat("#", 32))
	f := api.Frame{Kind: 1, Gen: 2, Body: room[:8]}
	first, second := mustSeal(t, f, 32), mustSeal(t, f, 32)
	if string(room) != "abcdefgh"+strings.Repeat("#", 32) {
		t.Fatalf("Seal changed its argument: %q", room)
	}
	spoil(first)
	if string(room) != "abcdefgh"+strings.Repeat("#", 32) {
		t.Fatalf("what Seal gave lies in its argument: %q", room)
	}
	wantOpen(t, second, f)

	wide := append(bytes.Clone(second), bytes.Repeat([]byte{'#'}, 32)...)
	kept := bytes.Clone(wide)
	one, _ := frame.Open(wide[:32])
	two, _ := frame.Open(wide[:32])
	if !bytes.Equal(wide, kept) {
		t.Fatalf("Open changed its argument: % x", wide)
	}
	spoil(one.Body)
	if !bytes.Equal(wide, kept) || string(two.Body) != "abcdefgh" {
		t.Fatalf("what Open gave shares memory: % x, %q", wide, two.Body)
	}
}

// P2.6: an empty answer has no spare room in the argument either.
func TestEmptyBodyIsNewMemory(t *testing.T) {
	b := mustSeal(t, api.Frame{Kind: 1, Gen: 2}, 20)
	kept := bytes.Clone(b)
	f, _ := frame.Open(b)
	spoil(f.Body)
	if !bytes.Equal(b, kept) {
		t.Fatalf("an empty body lies in the argument: % x", b)
	}
}

// P2.6: a body may lie in the bytes of a frame.
func TestBodyOfAFrame(t *testing.T) {
	b := mustSeal(t, api.Frame{Kind: 1, Gen: 2, Body: []byte("abc")}, 20)
	kept := bytes.Clone(b)
	outer := mustSeal(t, api.Frame{Kind: 9, Body: b}, 40)
	if !bytes.Equal(b, kept) {
		t.Fatalf("Seal changed its argument: % x", b)
	}
	f, _ := frame.Open(outer)
	wantOpen(t, f.Body, api.Frame{Kind: 1, Gen: 2, Body: []byte("abc")})
}

// spoil: writes over a list and into all its spare room.
func spoil(b []byte) {
	b = b[:cap(b)]
	for i := range b {
		b[i] = '!'
	}
}
