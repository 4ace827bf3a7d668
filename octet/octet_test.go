package octet_test

import (
	"bytes"
	"encoding/binary"
	"math"
	"slices"
	"testing"

	"tintype/api"
	"tintype/octet"
)

var (
	sizes  = []int{1, 2, 4}
	orders = []int{api.Little, api.Big}

	// Wrong sizes among which are those of 64 bits, and those that agree with a valid one in their low bits.
	badSizes  = []int{0, -1, -2, -4, 3, 5, 6, 7, 9, 12, 16, 32, 256 + 1, 1<<32 + 4, math.MinInt, math.MinInt + 4, math.MaxInt}
	badOrders = []int{0, -1, -2, 3, 4, 'I', 'M', 0x4949, 0x4d4d, 256 + 1, 1<<32 + 2, math.MinInt, math.MinInt + 1, math.MaxInt}
)

// extremes holds what no call may panic at.
var extremes = []int{math.MinInt, math.MinInt + 1, -1 << 62, -1 << 32, -1 << 31, -9, -8, -4, -3, -2, -1, 0, 1, 2, 3, 4, 5, 7, 8, 9, 16, 255, 256, 1<<31 - 1, 1 << 31, 1<<32 - 1, 1 << 32, 1 << 62, math.MaxInt - 1, math.MaxInt}

// bound is the number of unsigned numbers of a size.
func bound(size int) int { return 1 << (8 * size) }

// samples are unsigned numbers of a size: all of one and two bytes, and of four bytes those where the bytes or their bounds show.
func samples(size int) []int {
	var l []int
	if size < 4 {
		for n := range bound(size) {
			l = append(l, n)
		}
		return l
	}
	for bit := range 32 {
		l = append(l, 1<<bit-1, 1<<bit, 1<<bit+1)
	}
	return append(l, 0x01020304, 0x04030201, 0xfffefdfc, 0x80ff7f00, 1<<31-1, 1<<31, api.Most-1, api.Most)
}

// stored is how the library of the language stores a number.
func stored(n, size, order int) []byte {
	var o binary.AppendByteOrder = binary.BigEndian
	if order == api.Little {
		o = binary.LittleEndian
	}
	switch size {
	case 1:
		return []byte{byte(n)}
	case 2:
		return o.AppendUint16(nil, uint16(n))
	}
	return o.AppendUint32(nil, uint32(n))
}

// P1.1

func TestGetNumbers(t *testing.T) {
	for _, size := range sizes {
		for _, order := range orders {
			for _, n := range samples(size) {
				b := slices.Concat([]byte{0xa5, 0x5a, 0xff}, stored(n, size, order), []byte{0xc3, 0xff})
				if got, ok := octet.Get(b, 3, size, order); got != n || !ok {
					t.Fatalf("Get(%x, 3, %d, %d) = %d, %v; want %d", b, size, order, got, ok, n)
				}
			}
		}
	}
}

func TestGetExamples(t *testing.T) {
	b := []byte{1, 2, 3, 4}
	if n, ok := octet.Get(b, 1, 2, api.Little); n != 770 || !ok {
		t.Error(n, ok)
	}
	if n, ok := octet.Get(b, 1, 2, api.Big); n != 515 || !ok {
		t.Error(n, ok)
	}
}

func TestGetEnds(t *testing.T) {
	all := []byte{0x81, 0x82, 0x83, 0x84, 0x85, 0x86, 0x87, 0x88, 0x89}
	for long := range 7 {
		b := all[:long] // what stands behind, up to the capacity, is not of b
		for _, size := range sizes {
			for _, order := range orders {
				for at := -6; at <= long+6; at++ {
					n, ok := octet.Get(b, at, size, order)
					in := at >= 0 && at+size <= long
					if ok != in || !in && n != 0 {
						t.Errorf("Get of %d bytes, at %d, size %d, order %d: %d, %v", long, at, size, order, n, ok)
					}
					if in && !bytes.Equal(stored(n, size, order), b[at:at+size]) {
						t.Errorf("Get of %d bytes, at %d, size %d, order %d: %x", long, at, size, order, n)
					}
				}
				for _, at := range []int{math.MinInt, math.MinInt + size, math.MaxInt - size, math.MaxInt - size + 1, math.MaxInt, -1 << 32, 1 << 32, -size} {
					if n, ok := octet.Get(b, at, size, order); n != 0 || ok {
						t.Errorf("Get of %d bytes, at %d, size %d: %d, %v", long, at, size, n, ok)
					}
				}
			}
		}
	}
	if n, ok := octet.Get(nil, 0, 1, api.Big); n != 0 || ok {
		t.Error(n, ok)
	}
}

func TestGetWrong(t *testing.T) {
	b := bytes.Repeat([]byte{0xff}, 600)
	for _, size := range append([]int{8}, badSizes...) {
		for _, order := range orders {
			for _, at := range []int{0, 1, 300} {
				if n, ok := octet.Get(b, at, size, order); n != 0 || ok {
					t.Errorf("size %d, order %d: %d, %v", size, order, n, ok)
				}
			}
		}
	}
	for _, order := range badOrders {
		for _, size := range sizes {
			if n, ok := octet.Get(b, 0, size, order); n != 0 || ok {
				t.Errorf("size %d, order %d: %d, %v", size, order, n, ok)
			}
		}
	}
}

func TestPutNumbers(t *testing.T) {
	for _, size := range sizes {
		for _, order := range orders {
			for _, n := range samples(size) {
				if b, ok := octet.Put(n, size, order); !bytes.Equal(b, stored(n, size, order)) || !ok {
					t.Fatalf("Put(%d, %d, %d) = %x, %v", n, size, order, b, ok)
				}
			}
		}
	}
	if b, ok := octet.Put(258, 4, api.Little); !bytes.Equal(b, []byte{2, 1, 0, 0}) || !ok {
		t.Error(b, ok)
	}
}

func TestPutWrong(t *testing.T) {
	refused := func(n, size, order int) {
		t.Helper()
		if b, ok := octet.Put(n, size, order); len(b) != 0 || ok {
			t.Errorf("Put(%d, %d, %d) = %x, %v", n, size, order, b, ok)
		}
	}
	for _, order := range orders {
		for _, size := range sizes {
			for _, n := range []int{bound(size), bound(size) + 1, -1, -2, -bound(size) / 2, -bound(size), -bound(size) + 1, 1 << 32, 1<<32 + 1, 1 << 62, math.MinInt, math.MinInt + 1, math.MaxInt} {
				refused(n, size, order)
			}
		}
		for _, size := range append([]int{8}, badSizes...) {
			refused(0, size, order)
			refused(1, size, order)
			refused(-1, size, order)
		}
	}
	for _, order := range badOrders {
		for _, size := range sizes {
			refused(0, size, order)
			refused(1, size, order)
		}
	}
}

// P1.2

// signs pairs an unsigned number with the signed one that it represents.
type signs struct{ plain, signed, size int }

func allSigns() []signs {
	var l []signs
	for n := range 1 << 8 {
		l = append(l, signs{n, int(int8(n)), 1})
	}
	for n := range 1 << 16 {
		l = append(l, signs{n, int(int16(n)), 2})
	}
	for _, n := range samples(4) {
		l = append(l, signs{n, int(int32(n)), 4})
	}
	return append(l,
		signs{0, 0, 4}, signs{1, 1, 4}, signs{1<<31 - 1, 1<<31 - 1, 4},
		signs{1 << 31, -1 << 31, 4}, signs{1<<31 + 1, -1<<31 + 1, 4}, signs{api.Most, -1, 4})
}

func TestSignedAndPlain(t *testing.T) {
	for _, c := range allSigns() {
		if n, ok := octet.Signed(c.plain, c.size); n != c.signed || !ok {
			t.Errorf("Signed(%d, %d) = %d, %v", c.plain, c.size, n, ok)
		}
		if n, ok := octet.Plain(c.signed, c.size); n != c.plain || !ok {
			t.Errorf("Plain(%d, %d) = %d, %v", c.signed, c.size, n, ok)
		}
	}
}

func TestSignedExamples(t *testing.T) {
	if n, ok := octet.Signed(65535, 2); n != -1 || !ok {
		t.Error(n, ok)
	}
	if n, ok := octet.Plain(-2, 1); n != 254 || !ok {
		t.Error(n, ok)
	}
}

func TestSignedWrong(t *testing.T) {
	refused := func(n, size int) {
		t.Helper()
		if s, ok := octet.Signed(n, size); s != 0 || ok {
			t.Errorf("Signed(%d, %d) = %d, %v", n, size, s, ok)
		}
	}
	for _, size := range sizes {
		for _, n := range []int{bound(size), bound(size) + 1, -1, -2, -bound(size) / 2, -bound(size), 1 << 32, 1<<32 + 1, 1 << 62, math.MinInt, math.MaxInt} {
			refused(n, size)
		}
	}
	for _, size := range append([]int{8}, badSizes...) {
		refused(0, size)
		refused(1, size)
	}
}

func TestPlainWrong(t *testing.T) {
	refused := func(n, size int) {
		t.Helper()
		if p, ok := octet.Plain(n, size); p != 0 || ok {
			t.Errorf("Plain(%d, %d) = %d, %v", n, size, p, ok)
		}
	}
	for _, size := range sizes {
		half := bound(size) / 2
		for _, n := range []int{half, half + 1, 2*half - 1, 2 * half, -half - 1, -half - 2, -2*half + 1, -2 * half, 1 << 32, -1 << 32, 1 << 62, math.MinInt, math.MaxInt} {
			refused(n, size)
		}
	}
	for _, size := range append([]int{8}, badSizes...) {
		refused(0, size)
		refused(1, size)
		refused(-1, size)
	}
}

// P1.3

func TestTurnGroups(t *testing.T) {
	for _, size := range []int{1, 2, 4, 8} {
		for long := range 36 {
			b := make([]byte, long)
			for i := range b {
				b[i] = byte(100 + i)
			}
			want := slices.Clone(b)
			for i := range long / size * size {
				want[i] = b[i/size*size+size-1-i%size]
			}
			if got := octet.Turn(b, size, api.Little); !bytes.Equal(got, want) {
				t.Errorf("Turn(%v, %d, Little) = %v; want %v", b, size, got, want)
			}
			if got := octet.Turn(b, size, api.Big); !bytes.Equal(got, b) {
				t.Errorf("Turn(%v, %d, Big) = %v", b, size, got)
			}
		}
	}
}

func TestTurnExamples(t *testing.T) {
	for _, c := range []struct {
		b    []byte
		size int
		want []byte
	}{
		{[]byte{1, 2, 3, 4, 5}, 2, []byte{2, 1, 4, 3, 5}},
		{[]byte{1, 2, 3, 4, 5, 6, 7}, 4, []byte{4, 3, 2, 1, 5, 6, 7}},
		{[]byte{1, 2, 3, 4, 5, 6, 7, 8, 9, 10}, 8, []byte{8, 7, 6, 5, 4, 3, 2, 1, 9, 10}},
		{[]byte{1, 2, 3}, 1, []byte{1, 2, 3}},
		{[]byte{1, 2, 3}, 4, []byte{1, 2, 3}},
		{nil, 2, nil},
	} {
		if got := octet.Turn(c.b, c.size, api.Little); !bytes.Equal(got, c.want) {
			t.Errorf("Turn(%v, %d, Little) = %v", c.b, c.size, got)
		}
	}
}

func TestTurnWrong(t *testing.T) {
	b := []byte{1, 2, 3, 4, 5, 6, 7, 8, 9}
	for _, size := range badSizes {
		for _, order := range orders {
			if got := octet.Turn(b, size, order); len(got) != 0 {
				t.Errorf("Turn, size %d, order %d: %v", size, order, got)
			}
		}
	}
	for _, order := range badOrders {
		for _, size := range []int{1, 2, 4, 8} {
			if got := octet.Turn(b, size, order); len(got) != 0 {
				t.Errorf("Turn, size %d, order %d: %v", size, order, got)
			}
		}
	}
}

// P1.4

func TestAdd(t *testing.T) {
	for _, c := range []struct{ a, b int }{
		{0, 0}, {0, 1}, {1, 0}, {2, 3}, {1 << 31, 1<<31 - 1}, {api.Most, 0}, {0, api.Most}, {api.Most - 1, 1}, {1, api.Most - 1}, {65535, 65536},
	} {
		if n, ok := octet.Add(c.a, c.b); n != c.a+c.b || !ok {
			t.Errorf("Add(%d, %d) = %d, %v", c.a, c.b, n, ok)
		}
	}
}

func TestAddWrong(t *testing.T) {
	for _, c := range []struct{ a, b int }{
		{api.Most, 1}, {1, api.Most}, {1 << 31, 1 << 31}, {api.Most, api.Most}, // the sum is beyond Most
		{-1, 0}, {0, -1}, {-1, 1}, {1, -1}, {-1, 5}, {5, -1}, {-1, -1}, {api.Most, -1}, // less than 0
		{api.Most + 1, 0}, {0, api.Most + 1}, {api.Most + 1, -1}, {-1, api.Most + 1}, // a part is beyond Most
		{math.MaxInt, 1}, {1, math.MaxInt}, {math.MaxInt, math.MaxInt}, {math.MinInt, math.MinInt}, {math.MaxInt, math.MinInt}, {math.MinInt, math.MaxInt}, {math.MinInt, -1}, {math.MinInt, 0}, // sums that wrap around
	} {
		if n, ok := octet.Add(c.a, c.b); n != 0 || ok {
			t.Errorf("Add(%d, %d) = %d, %v", c.a, c.b, n, ok)
		}
	}
}

func TestRoom(t *testing.T) {
	for at := -5; at <= 9; at++ {
		for long := -5; long <= 9; long++ {
			for end := -5; end <= 9; end++ {
				if got := octet.Room(at, long, end); got != (at >= 0 && long >= 0 && at+long <= end) {
					t.Errorf("Room(%d, %d, %d) = %v", at, long, end, got)
				}
			}
		}
	}
}

func TestRoomFarOff(t *testing.T) {
	const most, least = math.MaxInt, math.MinInt
	for _, c := range []struct {
		at, long, end int
		want          bool
	}{
		{most, 0, most, true}, {0, most, most, true}, {1, most - 1, most, true}, {most - 1, 1, most, true}, {0, 0, most, true},
		{1, most, most, false}, {most, 1, most, false}, {most, most, most, false}, {1 << 62, 1 << 62, most, false}, {most, most, 5, false}, {5, most, 5, false}, {most, 5, 5, false},
		{least, 0, 5, false}, {0, least, 5, false}, {least, least, 5, false}, {least, most, most, false}, {most, least, most, false}, {-1, most, most, false}, {most, -1, most, false},
		{0, 0, least, false}, {0, 1, least, false}, {1, 0, least, false}, {most, most, least, false}, {1, most, least, false}, {0, most, least, false}, {least, 0, least, false}, {0, least, least, false},
		{api.Most, 1, api.Most + 1, true}, {api.Most, 1, api.Most, false}, {api.Most, 0, api.Most, true}, {1 << 31, 1 << 31, 1 << 32, true}, {1 << 32, 1 << 32, 5, false},
	} {
		if got := octet.Room(c.at, c.long, c.end); got != c.want {
			t.Errorf("Room(%d, %d, %d) = %v", c.at, c.long, c.end, got)
		}
	}
}

func TestEven(t *testing.T) {
	check := func(n, want int) {
		t.Helper()
		if got := octet.Even(n); got != want {
			t.Errorf("Even(%d) = %d; want %d", n, got, want)
		}
	}
	for n := -600; n <= 600; n += 2 {
		check(n, n)
		check(n-1, n)
	}
	for _, n := range []int{1 << 31, 1 << 32, 1 << 53, 1 << 62, -1 << 31, -1 << 32, -1<<62 + 2} {
		check(n-1, n)
	}
	for _, n := range []int{1 << 31, 1 << 32, 1<<62 - 2, -1 << 31, -1 << 32, -1<<62 + 2} {
		check(n, n)
	}
}

// P1.5

// guarded returns a slice with room behind it, and all of that memory.
func guarded() (b, whole []byte) {
	whole = []byte{1, 2, 3, 4, 5, 6, 7, 8, 9, 10, 11, 12, 13, 14, 15, 16}
	return whole[2:11], whole
}

func TestArgumentsStay(t *testing.T) {
	_, before := guarded()
	for _, order := range append([]int{0}, orders...) {
		for _, size := range []int{1, 2, 4, 8, 3} {
			b, whole := guarded()
			octet.Get(b, 1, size, order)
			octet.Turn(b, size, order)
			if !bytes.Equal(whole, before) {
				t.Errorf("size %d, order %d: %v", size, order, whole)
			}
		}
	}
}

func TestTurnShares(t *testing.T) {
	_, before := guarded()
	for _, order := range orders {
		for _, size := range []int{1, 2, 4, 8} {
			b, whole := guarded()
			got := octet.Turn(b, size, order)
			want := slices.Clone(got)
			overwrite(got)
			if !bytes.Equal(whole, before) {
				t.Errorf("size %d, order %d: the argument changed with the result", size, order)
			}
			got = octet.Turn(b, size, order)
			second := octet.Turn(b, size, order)
			overwrite(second)
			overwrite(whole)
			if !bytes.Equal(got, want) {
				t.Errorf("size %d, order %d: the result changed with the argument or another result", size, order)
			}
		}
	}
}

func TestPutShares(t *testing.T) {
	for _, order := range orders {
		for _, size := range sizes {
			for _, n := range []int{0, 1, 77, 255} {
				first, _ := octet.Put(n, size, order)
				second, _ := octet.Put(n, size, order)
				overwrite(first)
				third, _ := octet.Put(n, size, order)
				if want := stored(n, size, order); !bytes.Equal(second, want) || !bytes.Equal(third, want) {
					t.Errorf("Put(%d, %d, %d): %x, %x", n, size, order, second, third)
				}
			}
		}
	}
}

// overwrite changes each byte that the memory of b has room for.
func overwrite(b []byte) {
	b = b[:cap(b)]
	for i := range b {
		b[i] ^= 0xff
	}
}

func TestNothingIsKept(t *testing.T) {
	b := []byte{1, 2, 3, 4, 5}
	n, _ := octet.Get(b, 0, 4, api.Big)
	b[3] = 9
	m, _ := octet.Get(b, 0, 4, api.Big)
	if n != 0x01020304 || m != 0x01020309 {
		t.Errorf("%x, %x", n, m)
	}
	octet.Turn(b, 4, api.Little)
	b[0] = 7
	if got := octet.Turn(b, 4, api.Little); !bytes.Equal(got, []byte{9, 3, 2, 7, 5}) {
		t.Error(got)
	}
}

// P1.6

func TestRoundTrip(t *testing.T) {
	for _, size := range sizes {
		for _, n := range samples(size) {
			little, _ := octet.Put(n, size, api.Little)
			big, _ := octet.Put(n, size, api.Big)
			back := slices.Clone(little)
			slices.Reverse(back)
			if len(big) != size || !bytes.Equal(back, big) {
				t.Fatalf("%d of size %d: %x, %x", n, size, little, big)
			}
			for i, b := range [][]byte{little, big} {
				for at := range 5 {
					whole := slices.Concat(make([]byte, at), b, []byte{0xee})
					if m, ok := octet.Get(whole, at, size, orders[i]); m != n || !ok {
						t.Fatalf("%d of size %d, order %d, at %d: %d, %v", n, size, orders[i], at, m, ok)
					}
				}
			}
		}
	}
}

func TestSignedThere(t *testing.T) {
	for _, size := range sizes {
		for _, n := range samples(size) {
			s, ok := octet.Signed(n, size)
			m, is := octet.Plain(s, size)
			if m != n || !ok || !is {
				t.Fatalf("%d of size %d: %d, %d", n, size, s, m)
			}
		}
	}
}

// P1.7

func TestTurnTwice(t *testing.T) {
	for _, size := range []int{1, 2, 4, 8} {
		for _, order := range orders {
			for long := range 36 {
				b := make([]byte, long)
				for i := range b {
					b[i] = byte(7*i + 1)
				}
				if got := octet.Turn(octet.Turn(b, size, order), size, order); !bytes.Equal(got, b) {
					t.Errorf("size %d, order %d, %d bytes: %v", size, order, long, got)
				}
			}
		}
	}
}

func TestTurnedNumbers(t *testing.T) {
	b := []byte{0x80, 1, 2, 0xff, 4, 5, 0xfe, 7, 8, 9, 10, 11, 12, 13, 14}
	for _, size := range sizes {
		for _, order := range orders {
			turned := octet.Turn(b, size, order)
			for at := 0; at+size <= len(b); at += size {
				n, ok := octet.Get(b, at, size, order)
				m, is := octet.Get(turned, at, size, api.Big)
				if n != m || !ok || !is {
					t.Errorf("size %d, order %d, at %d: %x, %x", size, order, at, n, m)
				}
			}
		}
	}
}

// The common rules G1, G2 and G6.

// answers are what all the calls answer to some numbers.
type answers struct {
	get, signed, plain, add     int
	gets, puts, signs, pls, sum bool
	put, turned                 string
	room                        bool
}

func ask(b []byte, i, j, k int) answers {
	var a answers
	var put []byte
	a.get, a.gets = octet.Get(b, i, j, k)
	put, a.puts = octet.Put(i, j, k)
	a.signed, a.signs = octet.Signed(i, j)
	a.plain, a.pls = octet.Plain(i, j)
	a.turned = string(octet.Turn(b, i, j))
	a.add, a.sum = octet.Add(i, j)
	a.room = octet.Room(i, j, k)
	octet.Even(i)
	a.put = string(put)
	return a
}

func TestAnyNumbers(t *testing.T) {
	b := []byte{1, 2, 3, 4, 5, 6, 7, 8, 9}
	for _, i := range extremes {
		for _, j := range extremes {
			for _, k := range extremes {
				a := ask(b, i, j, k)
				if a != ask(b, i, j, k) {
					t.Fatalf("%d, %d, %d: other answers the second time", i, j, k)
				}
				if !a.gets && a.get != 0 || !a.puts && a.put != "" || !a.signs && a.signed != 0 || !a.pls && a.plain != 0 || !a.sum && a.add != 0 {
					t.Fatalf("%d, %d, %d: an answer beside a false: %+v", i, j, k, a)
				}
			}
		}
	}
}
