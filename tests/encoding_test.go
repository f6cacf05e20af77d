package tests

import (
	"bytes"
	"encoding/binary"
	"math"
	"slices"
	"testing"

	"loop.example/g03003/impl"
)

// withSpare returns a slice of the bytes with spare capacity behind it, and the whole memory of both.
func withSpare(data ...byte) (part []byte, whole []byte) {
	whole = append(slices.Clone(data), bytes.Repeat([]byte{201}, 32)...)
	return whole[:len(data)], whole
}

// fillSpare overwrites a result and the spare capacity behind it.
func fillSpare(result []byte) {
	result = result[:cap(result)]
	for i := range result {
		result[i] = 77
	}
}

// encodedIntegers are integers from 0 to MaxValue, with each end of each length of a varint.
func encodedIntegers() []int {
	integers := []int{impl.MaxValue - 1, impl.MaxValue, 300}
	for bit := 0; 1<<bit <= impl.MaxValue; bit++ {
		integers = append(integers, 1<<bit-1, 1<<bit, 1<<bit+1)
	}
	for n := range 40000 {
		integers = append(integers, n)
	}
	for n := 0; n <= impl.MaxValue; n += 123456789 {
		integers = append(integers, n)
	}
	return integers
}

// integersOutOfRange are integers that have no varint.
func integersOutOfRange() []int {
	return []int{-1, -2, -127, -128, -300, -impl.MaxValue, math.MinInt, math.MinInt + 1,
		impl.MaxValue + 1, impl.MaxValue + 2, 1 << 40, 1<<42 - 1, 1 << 42, math.MaxInt}
}

func TestAppendUvarint(t *testing.T) {
	cases := []struct {
		n    int
		want []byte
	}{
		{0, []byte{0}},
		{1, []byte{1}},
		{127, []byte{127}},
		{128, []byte{128, 1}},
		{129, []byte{129, 1}},
		{255, []byte{255, 1}},
		{256, []byte{128, 2}},
		{300, []byte{172, 2}},
		{16383, []byte{255, 127}},
		{16384, []byte{128, 128, 1}},
		{1<<21 - 1, []byte{255, 255, 127}},
		{1 << 21, []byte{128, 128, 128, 1}},
		{1<<28 - 1, []byte{255, 255, 255, 127}},
		{1 << 28, []byte{128, 128, 128, 128, 1}},
		{1<<35 - 1, []byte{255, 255, 255, 255, 127}},
		{1 << 35, []byte{128, 128, 128, 128, 128, 1}},
		{impl.MaxValue - 1, []byte{255, 159, 148, 165, 141, 29}},
		{impl.MaxValue, []byte{128, 160, 148, 165, 141, 29}},
	}
	for _, c := range cases {
		if got := impl.AppendUvarint(nil, c.n); !slices.Equal(got, c.want) {
			t.Errorf("AppendUvarint(nil, %d) is %v, not %v", c.n, got, c.want)
		}
		behind := slices.Concat([]byte{128, 0, 9}, c.want)
		if got := impl.AppendUvarint([]byte{128, 0, 9}, c.n); !slices.Equal(got, behind) {
			t.Errorf("AppendUvarint([128 0 9], %d) is %v, not %v", c.n, got, behind)
		}
	}
}

func TestAppendUvarintIsLeastGroupFirst(t *testing.T) {
	for _, n := range encodedIntegers() {
		want := binary.AppendUvarint([]byte{5}, uint64(n))
		if got := impl.AppendUvarint([]byte{5}, n); !slices.Equal(got, want) {
			t.Errorf("AppendUvarint([5], %d) is %v, not %v", n, got, want)
		}
	}
}

func TestAppendUvarintOutOfRange(t *testing.T) {
	for _, n := range integersOutOfRange() {
		for _, b := range [][]byte{nil, {}, {0}, {128}, {1, 2, 3}} {
			if got := impl.AppendUvarint(b, n); !slices.Equal(got, b) {
				t.Errorf("AppendUvarint(%v, %d) is %v", b, n, got)
			}
		}
	}
}

func TestAppendUvarintMakesACopy(t *testing.T) {
	for _, n := range []int{0, 127, 128, 300, impl.MaxValue, -1, impl.MaxValue + 1} {
		for _, data := range [][]byte{{}, {1}, {1, 2, 3}} {
			b, whole := withSpare(data...)
			before := slices.Clone(whole)
			fillSpare(impl.AppendUvarint(b, n))
			if !slices.Equal(whole, before) {
				t.Errorf("AppendUvarint(%v, %d) shares memory with its argument: %v", data, n, whole)
			}
		}
	}
}

func TestReadUvarintInvertsAppendUvarint(t *testing.T) {
	for _, n := range encodedIntegers() {
		b := impl.AppendUvarint([]byte{200, 0}, n)
		end := len(b)
		for _, following := range [][]byte{nil, {0}, {1}, {128}, {255, 255}} {
			got, next, ok := impl.ReadUvarint(slices.Concat(b, following), 2)
			if !ok || got != n || next != end {
				t.Errorf("ReadUvarint of %d before %v is %d, %d, %t", n, following, got, next, ok)
			}
		}
		for cut := 2; cut < end; cut++ {
			if got, next, ok := impl.ReadUvarint(b[:cut], 2); ok || got != 0 || next != 0 {
				t.Errorf("ReadUvarint of %v at 2 is %d, %d, %t", b[:cut], got, next, ok)
			}
		}
	}
}

func TestReadUvarint(t *testing.T) {
	b := []byte{172, 2, 0, 127, 128, 1, 128, 160, 148, 165, 141, 29}
	cases := []struct{ offset, n, next int }{
		{0, 300, 2}, {1, 2, 2}, {2, 0, 3}, {3, 127, 4}, {4, 128, 6}, {5, 1, 6}, {6, impl.MaxValue, 12}, {10, 29<<7 + 13, 12}, {11, 29, 12},
	}
	for _, c := range cases {
		if n, next, ok := impl.ReadUvarint(b, c.offset); !ok || n != c.n || next != c.next {
			t.Errorf("ReadUvarint(%v, %d) is %d, %d, %t, not %d, %d, true", b, c.offset, n, next, ok, c.n, c.next)
		}
	}
}

func TestReadUvarintRejects(t *testing.T) {
	cases := []struct {
		why    string
		b      []byte
		offset int
	}{
		{"nothing", nil, 0},
		{"nothing", []byte{}, 0},
		{"nothing", nil, 1},
		{"nothing", nil, -1},
		{"before the input", []byte{1, 2}, -1},
		{"before the input", []byte{1, 2}, -2},
		{"before the input", []byte{1, 2}, math.MinInt},
		{"at the end", []byte{1, 2}, 2},
		{"beyond the end", []byte{1, 2}, 3},
		{"beyond the end", []byte{1, 2}, math.MaxInt},
		{"cut off", []byte{128}, 0},
		{"cut off", []byte{172}, 0},
		{"cut off", []byte{1, 255}, 1},
		{"cut off", []byte{128, 128}, 0},
		{"cut off", []byte{128, 128, 128, 128, 128}, 0},
		{"cut off", []byte{129, 129, 129, 129, 129, 129}, 0},
		{"a last group of zero", []byte{128, 0}, 0},
		{"a last group of zero", []byte{129, 0}, 0},
		{"a last group of zero", []byte{255, 0}, 0},
		{"a last group of zero", []byte{172, 130, 0}, 0},
		{"a last group of zero", []byte{128, 128, 0}, 0},
		{"a last group of zero", []byte{1, 128, 128, 128, 0, 1}, 1},
		{"a last group of zero", []byte{255, 255, 255, 255, 0}, 0},
		{"a last group of zero", []byte{255, 255, 255, 255, 255, 0}, 0},
		{"above MaxValue", []byte{129, 160, 148, 165, 141, 29}, 0},
		{"above MaxValue", []byte{128, 161, 148, 165, 141, 29}, 0},
		{"above MaxValue", []byte{128, 160, 148, 165, 141, 30}, 0},
		{"above MaxValue", []byte{128, 160, 148, 165, 141, 127}, 0},
		{"above MaxValue", []byte{128, 128, 128, 128, 128, 64}, 0},
		{"above MaxValue", []byte{255, 255, 255, 255, 255, 127}, 0},
		{"seven bytes", []byte{129, 128, 128, 128, 128, 128, 1}, 0},
		{"seven bytes", []byte{129, 128, 128, 128, 128, 128, 0}, 0},
		{"seven bytes", []byte{128, 128, 128, 128, 128, 128, 1, 1}, 0},
		{"seven bytes", []byte{255, 255, 255, 255, 255, 255, 127}, 0},
		{"ten bytes", []byte{129, 128, 128, 128, 128, 128, 128, 128, 128, 1}, 0},
		{"eleven bytes", []byte{129, 128, 128, 128, 128, 128, 128, 128, 128, 128, 1}, 0},
		{"many bytes", append(bytes.Repeat([]byte{128}, 1000), 1), 0},
		{"many bytes", bytes.Repeat([]byte{255}, 1000), 0},
	}
	for _, c := range cases {
		if n, next, ok := impl.ReadUvarint(c.b, c.offset); ok || n != 0 || next != 0 {
			t.Errorf("%s: ReadUvarint(%v, %d) is %d, %d, %t, not 0, 0, false", c.why, c.b, c.offset, n, next, ok)
		}
	}
}

// Every input of one to three bytes is decoded exactly if it begins with what AppendUvarint writes.
func TestReadUvarintOfShortInputs(t *testing.T) {
	check := func(b []byte) {
		n, next, ok := impl.ReadUvarint(b, 0)
		value, size := binary.Uvarint(b)
		taken := size == 1 || size > 1 && b[size-1] != 0
		if !taken {
			value, size = 0, 0
		}
		if ok != taken || n != int(value) || next != size {
			t.Fatalf("ReadUvarint(%v, 0) is %d, %d, %t", b, n, next, ok)
		}
	}
	for i := range 256 {
		check([]byte{byte(i)})
		for j := range 256 {
			check([]byte{byte(i), byte(j)})
			for _, k := range []int{0, 1, 2, 63, 64, 127, 128, 129, 255} {
				check([]byte{byte(i), byte(j), byte(k)})
			}
		}
	}
}

// An integer has one encoding: what is decoded is what AppendUvarint writes.
func TestReadUvarintOfSixBytes(t *testing.T) {
	for last := range 256 {
		for _, first := range []byte{128, 129, 159, 160, 161, 255} {
			b := []byte{first, 160, 148, 165, 141, byte(last)}
			n, next, ok := impl.ReadUvarint(b, 0)
			value, size := binary.Uvarint(b)
			want := size == 6 && last > 0 && value <= impl.MaxValue
			if ok != want {
				t.Errorf("ReadUvarint(%v, 0) is %d, %d, %t", b, n, next, ok)
			}
			if ok && !slices.Equal(impl.AppendUvarint(nil, n), b[:next]) {
				t.Errorf("ReadUvarint(%v, 0) is %d, which has another encoding", b, n)
			}
		}
	}
}

func TestAppendBytes(t *testing.T) {
	long := bytes.Repeat([]byte{4}, 300)
	cases := []struct{ b, data, want []byte }{
		{nil, nil, []byte{0}},
		{[]byte{}, []byte{}, []byte{0}},
		{[]byte{6}, nil, []byte{6, 0}},
		{nil, []byte{7}, []byte{1, 7}},
		{nil, []byte{0}, []byte{1, 0}},
		{[]byte{1}, []byte{7, 8}, []byte{1, 2, 7, 8}},
		{[]byte{128}, []byte{255}, []byte{128, 1, 255}},
		{nil, long[:127], slices.Concat([]byte{127}, long[:127])},
		{nil, long[:128], slices.Concat([]byte{128, 1}, long[:128])},
		{[]byte{3}, long, slices.Concat([]byte{3, 172, 2}, long)},
	}
	for _, c := range cases {
		if got := impl.AppendBytes(c.b, c.data); !slices.Equal(got, c.want) {
			t.Errorf("AppendBytes(%v, %v) is %v, not %v", c.b, c.data, got, c.want)
		}
	}
}

func TestAppendBytesMakesACopy(t *testing.T) {
	for _, prefix := range [][]byte{{}, {1, 2, 3}} {
		for _, content := range [][]byte{{}, {4}, {4, 5, 6, 7}} {
			b, wholeB := withSpare(prefix...)
			data, wholeData := withSpare(content...)
			beforeB, beforeData := slices.Clone(wholeB), slices.Clone(wholeData)
			fillSpare(impl.AppendBytes(b, data))
			if !slices.Equal(wholeB, beforeB) || !slices.Equal(wholeData, beforeData) {
				t.Errorf("AppendBytes(%v, %v) shares memory with an argument: %v, %v", prefix, content, wholeB, wholeData)
			}
		}
	}
}

func TestAppendBytesToItself(t *testing.T) {
	b, whole := withSpare(1, 2, 3)
	before := slices.Clone(whole)
	if got := impl.AppendBytes(b, whole[1:5]); !slices.Equal(got, []byte{1, 2, 3, 4, 2, 3, 201, 201}) {
		t.Errorf("AppendBytes of a part of its memory is %v", got)
	}
	if !slices.Equal(whole, before) {
		t.Errorf("AppendBytes changed its arguments: %v", whole)
	}
}

func TestReadBytesInvertsAppendBytes(t *testing.T) {
	for _, length := range []int{0, 1, 2, 126, 127, 128, 129, 300, 16383, 16384, 20000} {
		data := make([]byte, length)
		for i := range data {
			data[i] = byte(i*7 + 1)
		}
		b := impl.AppendBytes([]byte{128, 0, 1}, data)
		end := len(b)
		for _, maxLen := range []int{length, length + 1, impl.MaxValue, math.MaxInt} {
			got, next, ok := impl.ReadBytes(append(slices.Clone(b), 1, 0), 3, maxLen)
			if !ok || next != end || !slices.Equal(got, data) {
				t.Errorf("ReadBytes of %d bytes of at most %d is %v, %d, %t", length, maxLen, got, next, ok)
			}
		}
		for _, maxLen := range []int{length - 1, -1, math.MinInt} {
			if got, next, ok := impl.ReadBytes(b, 3, maxLen); ok || next != 0 || len(got) != 0 {
				t.Errorf("ReadBytes of %d bytes of at most %d is %v, %d, %t", length, maxLen, got, next, ok)
			}
		}
		for cut := 3; cut < end; cut += 1 + end/50 {
			if got, next, ok := impl.ReadBytes(b[:cut], 3, math.MaxInt); ok || next != 0 || len(got) != 0 {
				t.Errorf("ReadBytes of %d bytes, of which %d are there, is %v, %d, %t", length, cut-3, got, next, ok)
			}
		}
	}
}

func TestReadBytes(t *testing.T) {
	b := []byte{1, 2, 7, 8, 0, 3, 0, 128, 0}
	cases := []struct {
		offset, maxLen int
		want           []byte
		next           int
	}{
		{0, 1, []byte{2}, 2},
		{1, 2, []byte{7, 8}, 4},
		{1, 3, []byte{7, 8}, 4},
		{4, 0, []byte{}, 5},
		{4, 9, []byte{}, 5},
		{5, 3, []byte{0, 128, 0}, 9},
		{6, 0, []byte{}, 7},
		{8, 0, []byte{}, 9},
	}
	for _, c := range cases {
		got, next, ok := impl.ReadBytes(b, c.offset, c.maxLen)
		if !ok || next != c.next || !slices.Equal(got, c.want) {
			t.Errorf("ReadBytes(%v, %d, %d) is %v, %d, %t, not %v, %d, true", b, c.offset, c.maxLen, got, next, ok, c.want, c.next)
		}
	}
}

func TestReadBytesRejects(t *testing.T) {
	cases := []struct {
		why            string
		b              []byte
		offset, maxLen int
	}{
		{"no prefix", nil, 0, 9},
		{"no prefix", []byte{}, 0, 9},
		{"no prefix", []byte{0}, 1, 9},
		{"no prefix", []byte{0}, 2, 9},
		{"no prefix", []byte{0}, math.MaxInt, 9},
		{"no prefix", []byte{0}, -1, 9},
		{"no prefix", []byte{0}, math.MinInt, 9},
		{"a prefix that is cut off", []byte{129}, 0, 999},
		{"a prefix that is not minimal", []byte{129, 0, 5}, 0, 9},
		{"a prefix that is not minimal", []byte{128, 0}, 0, 9},
		{"a prefix of seven bytes", []byte{129, 128, 128, 128, 128, 128, 0, 1, 1}, 0, 9},
		{"a prefix above MaxValue", []byte{129, 160, 148, 165, 141, 29, 1}, 0, math.MaxInt},
		{"longer than maxLen", []byte{2, 7, 8}, 0, 1},
		{"longer than maxLen", []byte{2, 7, 8}, 0, 0},
		{"longer than maxLen", []byte{1, 7}, 0, 0},
		{"a negative maxLen", []byte{2, 7, 8}, 0, -1},
		{"a negative maxLen", []byte{0}, 0, -1},
		{"a negative maxLen", []byte{0}, 0, math.MinInt},
		{"too short", []byte{1}, 0, 9},
		{"too short", []byte{3, 7, 8}, 0, 9},
		{"too short", []byte{9, 9, 3, 7, 8}, 2, 9},
		{"too short", []byte{128, 160, 148, 165, 141, 29, 1}, 0, math.MaxInt},
		{"too short", []byte{128, 160, 148, 165, 141, 29}, 0, impl.MaxValue},
	}
	for _, c := range cases {
		got, next, ok := impl.ReadBytes(c.b, c.offset, c.maxLen)
		if ok || next != 0 || len(got) != 0 {
			t.Errorf("%s: ReadBytes(%v, %d, %d) is %v, %d, %t, not empty, 0, false", c.why, c.b, c.offset, c.maxLen, got, next, ok)
		}
	}
}

func TestReadBytesMakesACopy(t *testing.T) {
	for _, data := range [][]byte{{0}, {2, 7, 8}, {2, 7, 8, 9, 9}, {5, 1}, {128, 0}} {
		b, whole := withSpare(data...)
		before := slices.Clone(whole)
		got, _, _ := impl.ReadBytes(b, 0, 9)
		fillSpare(got)
		if !slices.Equal(whole, before) {
			t.Errorf("ReadBytes(%v, 0, 9) shares memory with its argument: %v", data, whole)
		}
	}
}

// What stands behind the length of a slice is not a part of the input.
func TestReadingEndsWithTheInput(t *testing.T) {
	whole := []byte{172, 2, 3, 7, 8, 9}
	if n, next, ok := impl.ReadUvarint(whole[:1], 0); ok || n != 0 || next != 0 {
		t.Errorf("ReadUvarint read beyond its input: %d, %d, %t", n, next, ok)
	}
	if data, next, ok := impl.ReadBytes(whole[:5], 2, 9); ok || next != 0 || len(data) != 0 {
		t.Errorf("ReadBytes read beyond its input: %v, %d, %t", data, next, ok)
	}
	if values, next, ok := impl.DecodeInts(whole[:3], 0, 3); ok || next != 0 || len(values) != 0 {
		t.Errorf("DecodeInts read beyond its input: %v, %d, %t", values, next, ok)
	}
}

func TestEncodeInts(t *testing.T) {
	cases := []struct {
		values []int
		want   []byte
	}{
		{nil, nil},
		{[]int{}, nil},
		{[]int{0}, []byte{0}},
		{[]int{5, 300}, []byte{5, 172, 2}},
		{[]int{300, 5}, []byte{172, 2, 5}},
		{[]int{0, 0, 127, 128}, []byte{0, 0, 127, 128, 1}},
		{[]int{impl.MaxValue, 1}, []byte{128, 160, 148, 165, 141, 29, 1}},
		{[]int{-1}, nil},
		{[]int{1, -1, 2, impl.MaxValue + 1, 3}, []byte{1, 2, 3}},
		{integersOutOfRange(), nil},
	}
	for _, c := range cases {
		if got := impl.EncodeInts(c.values); !slices.Equal(got, c.want) {
			t.Errorf("EncodeInts(%v) is %v, not %v", c.values, got, c.want)
		}
	}
}

func TestEncodeIntsKeepsItsArgument(t *testing.T) {
	whole := []int{1, -1, 300, 4, 5}
	impl.EncodeInts(whole[:3])
	if !slices.Equal(whole, []int{1, -1, 300, 4, 5}) {
		t.Errorf("EncodeInts changed its argument: %v", whole)
	}
}

func TestDecodeIntsInvertsEncodeInts(t *testing.T) {
	integers := encodedIntegers()
	for start := 0; start < len(integers); start += 97 {
		values := integers[start:min(start+100, len(integers))]
		b := append([]byte{128, 0}, impl.EncodeInts(values)...)
		end := len(b)
		got, next, ok := impl.DecodeInts(append(b, 0, 128), 2, len(values))
		if !ok || next != end || !slices.Equal(got, values) {
			t.Errorf("DecodeInts of %v is %v, %d, %t", values, got, next, ok)
		}
	}
}

func TestDecodeInts(t *testing.T) {
	b := []byte{5, 172, 2, 0}
	cases := []struct {
		offset, count int
		want          []int
		next          int
	}{
		{0, 0, nil, 0},
		{1, 0, nil, 1},
		{4, 0, nil, 4},
		{0, 1, []int{5}, 1},
		{0, 2, []int{5, 300}, 3},
		{0, 3, []int{5, 300, 0}, 4},
		{1, 1, []int{300}, 3},
		{2, 2, []int{2, 0}, 4},
		{3, 1, []int{0}, 4},
	}
	for _, c := range cases {
		got, next, ok := impl.DecodeInts(b, c.offset, c.count)
		if !ok || next != c.next || !slices.Equal(got, c.want) {
			t.Errorf("DecodeInts(%v, %d, %d) is %v, %d, %t, not %v, %d, true", b, c.offset, c.count, got, next, ok, c.want, c.next)
		}
	}
	for _, empty := range [][]byte{nil, {}} {
		if got, next, ok := impl.DecodeInts(empty, 0, 0); !ok || next != 0 || len(got) != 0 {
			t.Errorf("DecodeInts of nothing is %v, %d, %t", got, next, ok)
		}
	}
}

func TestDecodeIntsCount(t *testing.T) {
	b := make([]byte, 300)
	for _, count := range []int{0, 1, 99, 100} {
		if got, next, ok := impl.DecodeInts(b, 1, count); !ok || next != 1+count || !slices.Equal(got, make([]int, count)) {
			t.Errorf("DecodeInts of %d zeros is %v, %d, %t", count, got, next, ok)
		}
	}
	for _, count := range []int{101, 102, 299, math.MaxInt, -1, -100, math.MinInt} {
		if got, next, ok := impl.DecodeInts(b, 1, count); ok || next != 0 || len(got) != 0 {
			t.Errorf("DecodeInts of %d zeros is %v, %d, %t", count, got, next, ok)
		}
	}
}

func TestDecodeIntsRejects(t *testing.T) {
	cases := []struct {
		why           string
		b             []byte
		offset, count int
	}{
		{"before the input", []byte{5, 6}, -1, 0},
		{"before the input", []byte{5, 6}, -1, 1},
		{"before the input", []byte{5, 6}, math.MinInt, 0},
		{"beyond the end", []byte{5, 6}, 3, 0},
		{"beyond the end", []byte{5, 6}, 3, 1},
		{"beyond the end", []byte{5, 6}, math.MaxInt, 0},
		{"beyond the end", nil, 1, 0},
		{"at the end", []byte{5, 6}, 2, 1},
		{"at the end", nil, 0, 1},
		{"too few", []byte{5, 6}, 0, 3},
		{"too few", []byte{5, 6}, 1, 2},
		{"too few", []byte{5, 172, 2}, 0, 3},
		{"too few", []byte{5}, 0, 100},
		{"cut off", []byte{5, 172}, 0, 2},
		{"not minimal", []byte{5, 128, 0}, 0, 2},
		{"not minimal", []byte{128, 0, 5}, 0, 2},
		{"not minimal", []byte{5, 128, 0, 5}, 0, 3},
		{"seven bytes", []byte{5, 129, 128, 128, 128, 128, 128, 1}, 0, 2},
		{"above MaxValue", []byte{5, 129, 160, 148, 165, 141, 29}, 0, 2},
	}
	for _, c := range cases {
		if got, next, ok := impl.DecodeInts(c.b, c.offset, c.count); ok || next != 0 || len(got) != 0 {
			t.Errorf("%s: DecodeInts(%v, %d, %d) is %v, %d, %t, not empty, 0, false", c.why, c.b, c.offset, c.count, got, next, ok)
		}
	}
}

func TestDecodingKeepsItsArgument(t *testing.T) {
	b, whole := withSpare(1, 5, 172, 2, 128, 0)
	before := slices.Clone(whole)
	for offset := -1; offset <= len(b)+1; offset++ {
		impl.ReadUvarint(b, offset)
		impl.ReadBytes(b, offset, 9)
		for count := -1; count < 9; count++ {
			impl.DecodeInts(b, offset, count)
		}
	}
	if !slices.Equal(whole, before) {
		t.Errorf("the decoding changed its argument: %v", whole)
	}
}

func TestEqualBytes(t *testing.T) {
	cases := []struct {
		a, b []byte
		want bool
	}{
		{nil, nil, true},
		{nil, []byte{}, true},
		{[]byte{}, []byte{}, true},
		{[]byte{0}, []byte{0}, true},
		{[]byte{1, 2, 255}, []byte{1, 2, 255}, true},
		{nil, []byte{0}, false},
		{[]byte{}, []byte{0}, false},
		{[]byte{1, 2}, []byte{1, 2, 0}, false},
		{[]byte{1, 2}, []byte{1, 2, 3}, false},
		{[]byte{1, 2, 3}, []byte{1, 2, 4}, false},
		{[]byte{1, 2, 3}, []byte{0, 2, 3}, false},
		{[]byte{1, 2}, []byte{2, 1}, false},
		{[]byte{127}, []byte{255}, false},
	}
	for _, c := range cases {
		if got := impl.EqualBytes(c.a, c.b); got != c.want {
			t.Errorf("EqualBytes(%v, %v) is %t", c.a, c.b, got)
		}
		if got := impl.EqualBytes(c.b, c.a); got != c.want {
			t.Errorf("EqualBytes(%v, %v) is %t", c.b, c.a, got)
		}
	}
}
