package tests

import (
	"bytes"
	"math"
	"math/big"
	"math/rand"
	"slices"
	"testing"

	"loop.example/g03003/impl"
)

// expectedHash is the hash of the values, calculated without a limit of bits.
func expectedHash(values ...int) int {
	modulus, factor, offset := big.NewInt(2147483647), big.NewInt(1000003), big.NewInt(13)
	hash := big.NewInt(11)
	for _, v := range values {
		rest := new(big.Int).Mod(big.NewInt(int64(v)), modulus)
		hash.Mul(hash, factor)
		hash.Add(hash, rest)
		hash.Add(hash, offset)
		hash.Mod(hash, modulus)
	}
	return int(hash.Int64())
}

// expectedKeyedHash is the keyed hash of the values, calculated without a limit of bits.
func expectedKeyedHash(key int, values ...int) int {
	return expectedHash(slices.Concat([]int{key}, values, []int{key})...)
}

// hashedLists are lists of values of each kind that a hash may meet.
func hashedLists() [][]int {
	lists := [][]int{nil, {}, {0}, {0, 0}, {1, 2, 3}, {-1, -2}, {impl.Modulus - 1, impl.Modulus, impl.Modulus + 1},
		{math.MinInt, math.MaxInt}, slices.Repeat([]int{impl.Modulus - 1}, 200)}
	source := rand.New(rand.NewSource(3))
	for length := range 40 {
		list := []int{}
		for range length {
			list = append(list, int(source.Uint64()), source.Intn(300))
		}
		lists = append(lists, list)
	}
	return lists
}

// keys are keys of each kind, the valid and the others.
func keys() []int {
	return []int{1, 2, 77, 1 << 30, impl.Modulus - 2, impl.Modulus - 1,
		0, -1, -77, impl.Modulus, impl.Modulus + 1, -impl.Modulus, 1 << 40, math.MaxInt, math.MinInt}
}

// allBytes returns each byte once.
func allBytes() []byte {
	all := make([]byte, 256)
	for i := range all {
		all[i] = byte(i)
	}
	return all
}

// cipheredTexts are byte strings that a cipher may meet.
func cipheredTexts() [][]byte {
	return [][]byte{nil, {}, {0}, {255}, {0, 255, 0, 255}, []byte("hello"), allBytes(), bytes.Repeat([]byte{0}, 700), bytes.Repeat([]byte{255}, 700)}
}

// intsWithSpare returns a slice of the values with spare capacity behind it, and the whole memory of both.
func intsWithSpare(values ...int) (part []int, whole []int) {
	whole = append(slices.Clone(values), slices.Repeat([]int{201}, 32)...)
	return whole[:len(values)], whole
}

func TestModulus(t *testing.T) {
	if impl.Modulus != 2147483647 {
		t.Errorf("Modulus is %d", impl.Modulus)
	}
}

func TestHash(t *testing.T) {
	cases := []struct {
		values []int
		want   int
	}{
		{nil, 11},
		{[]int{}, 11},
		{[]int{0}, 11000046},
		{[]int{5}, 11000051},
		{[]int{-1}, 11000045},
		{[]int{impl.Modulus - 1}, 11000045},
		{[]int{impl.Modulus}, 11000046},
		{[]int{impl.Modulus + 5}, 11000051},
		{[]int{5 - impl.Modulus}, 11000051},
		{[]int{-impl.Modulus}, 11000046},
		{[]int{math.MaxInt}, 11000047},
		{[]int{math.MinInt}, 11000044},
		{[]int{math.MinInt + 1}, 11000045},
		{[]int{0, 0}, 667760217},
		{[]int{1, 2}, 668760222},
		{[]int{2, 1}, 669760224},
		{[]int{1, 2, 3}, 1460866530},
		{[]int{math.MinInt, math.MaxInt, -1, 0, impl.Modulus}, 91155105},
		{slices.Repeat([]int{impl.Modulus - 1}, 4), 125586210},
	}
	for _, c := range cases {
		if got := impl.Hash(c.values); got != c.want {
			t.Errorf("Hash(%v) is %d, not %d", c.values, got, c.want)
		}
	}
}

func TestHashFoldsEachValue(t *testing.T) {
	for _, values := range hashedLists() {
		got := impl.Hash(values)
		if want := expectedHash(values...); got != want {
			t.Errorf("Hash(%v) is %d, not %d", values, got, want)
		}
		if got < 0 || got >= impl.Modulus {
			t.Errorf("Hash(%v) is %d, out of range", values, got)
		}
	}
}

func TestKeyedHash(t *testing.T) {
	cases := []struct {
		key    int
		values []int
		want   int
	}{
		{3, []int{4}, 20107550},
		{3, nil, 670760229},
		{3, []int{}, 670760229},
		{0, nil, 667760217},
		{1, nil, 668760221},
		{1, []int{7}, 1465866543},
		{impl.Modulus + 1, []int{7}, 1465866543},
		{0, []int{7}, 39762388},
		{impl.Modulus, []int{7}, 39762388},
		{-1, []int{7}, 761141880},
		{impl.Modulus - 1, []int{7}, 761141880},
		{math.MaxInt, []int{math.MinInt}, 1456866516},
		{math.MinInt, []int{math.MaxInt}, 1476521354},
		{77, []int{1, 2, 3}, 136746810},
	}
	for _, c := range cases {
		if got := impl.KeyedHash(c.key, c.values); got != c.want {
			t.Errorf("KeyedHash(%d, %v) is %d, not %d", c.key, c.values, got, c.want)
		}
	}
}

func TestKeyedHashHasTheKeyOnBothSides(t *testing.T) {
	for _, key := range keys() {
		for _, values := range hashedLists() {
			if got, want := impl.KeyedHash(key, values), expectedKeyedHash(key, values...); got != want {
				t.Errorf("KeyedHash(%d, %v) is %d, not %d", key, values, got, want)
			}
		}
	}
}

// A change of one value changes the hashes exactly if it is one modulo Modulus.
func TestHashesDependOnEachValue(t *testing.T) {
	changes := []int{1, -1, 2, 255, 256, 1 << 16, 1 << 30, 1 << 31, 1 << 32, 1 << 50, impl.Modulus - 1, impl.Modulus + 1,
		impl.Modulus, -impl.Modulus, 2 * impl.Modulus, -1000 * impl.Modulus}
	check := func(key int, values []int, i int, change int) {
		changed := slices.Clone(values)
		changed[i] += change
		// Not the remainder of the change, since the sum may wrap around.
		equal := expectedHash(changed[i]) == expectedHash(values[i])
		if got := impl.Hash(changed) == impl.Hash(values); got != equal {
			t.Errorf("that Hash of %v and %v are equal is %t", values, changed, got)
		}
		if got := impl.KeyedHash(key, changed) == impl.KeyedHash(key, values); got != equal {
			t.Errorf("that KeyedHash of %d and of %v and %v are equal is %t", key, values, changed, got)
		}
	}
	for _, key := range keys() {
		for _, values := range hashedLists() {
			for i := range values {
				for _, change := range changes {
					check(key, values, i, change)
				}
			}
		}
	}
}

func TestKeyedHashDependsOnTheKey(t *testing.T) {
	for _, values := range [][]int{nil, {0}, {1}, {2, 97, 98}, {-1, math.MaxInt, 5}} {
		for key := range 2000 {
			if impl.KeyedHash(key, values) == impl.KeyedHash(key+1, values) {
				t.Errorf("KeyedHash(%d, %v) is that of the next key", key, values)
			}
			if impl.KeyedHash(key, values) != impl.KeyedHash(key-impl.Modulus, values) {
				t.Errorf("KeyedHash(%d, %v) is not that of the key less Modulus", key, values)
			}
		}
	}
}

func TestHashesDependOnTheOrderAndTheLength(t *testing.T) {
	for _, hash := range []func([]int) int{impl.Hash, func(values []int) int { return impl.KeyedHash(9, values) }} {
		lists := [][]int{nil, {0}, {0, 0}, {0, 0, 0}, {1, 2, 3}, {1, 3, 2}, {2, 1, 3}, {3, 2, 1}, {1, 2}, {2, 3}}
		for i, a := range lists {
			for _, b := range lists[:i] {
				if hash(a) == hash(b) {
					t.Errorf("the hash of %v is that of %v", a, b)
				}
			}
		}
	}
}

func TestIsValidKey(t *testing.T) {
	for _, key := range []int{1, 2, 77, 1 << 30, impl.Modulus - 2, impl.Modulus - 1} {
		if !impl.IsValidKey(key) {
			t.Errorf("IsValidKey(%d) is false", key)
		}
	}
	for _, key := range []int{0, -1, -77, 1 - impl.Modulus, -impl.Modulus, impl.Modulus, impl.Modulus + 1, 1 << 31, 1<<32 + 1, math.MaxInt, math.MinInt, math.MinInt + 1} {
		if impl.IsValidKey(key) {
			t.Errorf("IsValidKey(%d) is true", key)
		}
	}
}

func TestBytesToInts(t *testing.T) {
	cases := []struct {
		b    []byte
		want []int
	}{
		{nil, []int{0}},
		{[]byte{}, []int{0}},
		{[]byte{0}, []int{1, 0}},
		{[]byte{255}, []int{1, 255}},
		{[]byte{9, 8}, []int{2, 9, 8}},
		{[]byte{0, 127, 128, 255}, []int{4, 0, 127, 128, 255}},
		{[]byte("hello"), []int{5, 104, 101, 108, 108, 111}},
	}
	for _, c := range cases {
		if got := impl.BytesToInts(c.b); !slices.Equal(got, c.want) {
			t.Errorf("BytesToInts(%v) is %v, not %v", c.b, got, c.want)
		}
	}
	got := impl.BytesToInts(slices.Repeat(allBytes(), 3))
	if len(got) != 769 || got[0] != 768 {
		t.Fatalf("BytesToInts of 768 bytes has %d values and begins with %d", len(got), got[0])
	}
	for i, n := range got[1:] {
		if n != i%256 {
			t.Errorf("BytesToInts has %d for byte %d", n, i%256)
		}
	}
}

func TestEncrypt(t *testing.T) {
	cases := []struct {
		key               int
		plain, ciphertext []byte
	}{
		{77, []byte("hello"), []byte{249, 57, 131, 198, 12}},
		{77, []byte("h"), []byte{249}},
		{1, []byte{0, 255}, []byte{90, 156}},
		{impl.Modulus - 1, []byte{0, 0, 0, 0}, []byte{163, 230, 41, 108}},
		{-1, []byte{0, 0, 0, 0}, []byte{163, 230, 41, 108}},
		{0, []byte{0, 255, 0}, []byte{255, 65, 133}},
		{impl.Modulus, []byte{0, 0, 0}, []byte{255, 66, 133}},
		{math.MaxInt, []byte("ab"), []byte{187, 255}},
		{math.MinInt, []byte("ab"), []byte{168, 236}},
		{77, nil, nil},
		{77, []byte{}, nil},
		{0, nil, nil},
		{-1, []byte{}, nil},
	}
	for _, c := range cases {
		if got := impl.Encrypt(c.key, c.plain); !slices.Equal(got, c.ciphertext) {
			t.Errorf("Encrypt(%d, %v) is %v, not %v", c.key, c.plain, got, c.ciphertext)
		}
		if got := impl.Decrypt(c.key, c.ciphertext); !slices.Equal(got, c.plain) {
			t.Errorf("Decrypt(%d, %v) is %v, not %v", c.key, c.ciphertext, got, c.plain)
		}
	}
}

func TestCipherFollowsTheKeyedHashOfTheIndex(t *testing.T) {
	for _, key := range keys() {
		for _, b := range cipheredTexts() {
			encrypted, decrypted := impl.Encrypt(key, b), impl.Decrypt(key, b)
			if len(encrypted) != len(b) || len(decrypted) != len(b) {
				t.Fatalf("of %d bytes, Encrypt makes %d and Decrypt %d", len(b), len(encrypted), len(decrypted))
			}
			for i := range b {
				hash := expectedKeyedHash(key, i)
				if got := int(encrypted[i]); got != (int(b[i])+hash)%256 {
					t.Errorf("Encrypt(%d, %v) has %d at %d", key, b, got, i)
				}
				if got := int(decrypted[i]); got != ((int(b[i])-hash)%256+256)%256 {
					t.Errorf("Decrypt(%d, %v) has %d at %d", key, b, got, i)
				}
			}
		}
	}
}

func TestDecryptInvertsEncrypt(t *testing.T) {
	for _, key := range keys() {
		for _, b := range cipheredTexts() {
			if got := impl.Decrypt(key, impl.Encrypt(key, b)); !slices.Equal(got, b) {
				t.Errorf("Decrypt inverts Encrypt(%d, %v) to %v", key, b, got)
			}
			if got := impl.Encrypt(key, impl.Decrypt(key, b)); !slices.Equal(got, b) {
				t.Errorf("Encrypt inverts Decrypt(%d, %v) to %v", key, b, got)
			}
		}
	}
}

func TestDecryptInvertsEncryptForManyKeys(t *testing.T) {
	source := rand.New(rand.NewSource(4))
	for range 2000 {
		key := int(source.Uint64())
		b := make([]byte, source.Intn(50))
		source.Read(b)
		if got := impl.Decrypt(key, impl.Encrypt(key, b)); !slices.Equal(got, b) {
			t.Errorf("Decrypt inverts Encrypt(%d, %v) to %v", key, b, got)
		}
		if got := impl.Encrypt(key, impl.Decrypt(key, b)); !slices.Equal(got, b) {
			t.Errorf("Encrypt inverts Decrypt(%d, %v) to %v", key, b, got)
		}
	}
}

// The key stream goes on behind the indices that fit in one or two bytes.
func TestCipherOfALongText(t *testing.T) {
	b := bytes.Repeat([]byte{7}, 1<<16+600)
	encrypted := impl.Encrypt(31, b)
	for _, i := range []int{0, 1, 255, 256, 257, 1<<16 - 1, 1 << 16, 1<<16 + 1, 1<<16 + 599} {
		if want := byte((7 + expectedKeyedHash(31, i)) % 256); encrypted[i] != want {
			t.Errorf("Encrypt has %d at %d, not %d", encrypted[i], i, want)
		}
	}
	if !slices.Equal(impl.Decrypt(31, encrypted), b) {
		t.Error("Decrypt does not invert Encrypt of a long text")
	}
}

func TestCipherDependsOnTheKey(t *testing.T) {
	b := bytes.Repeat([]byte("crosswords"), 5)
	for key := 1; key < 500; key++ {
		encrypted := impl.Encrypt(key, b)
		if slices.Equal(encrypted, b) {
			t.Errorf("Encrypt(%d, ..) changes nothing", key)
		}
		if slices.Equal(impl.Decrypt(key+1, encrypted), b) {
			t.Errorf("Decrypt inverts Encrypt(%d, ..) with the next key", key)
		}
		if !slices.Equal(impl.Decrypt(key+impl.Modulus, encrypted), b) {
			t.Errorf("Decrypt does not invert Encrypt(%d, ..) with the key and Modulus", key)
		}
	}
}

func TestCipherStartsAnewWithEachCall(t *testing.T) {
	first, second := impl.Encrypt(6, []byte("ab")), impl.Encrypt(6, []byte("ab"))
	if !slices.Equal(first, second) {
		t.Errorf("Encrypt makes %v, then %v", first, second)
	}
	if long := impl.Encrypt(6, []byte("abc")); !slices.Equal(long[:2], first) {
		t.Errorf("Encrypt makes %v, but %v of a longer text", first, long)
	}
}

func TestDeriveFromString(t *testing.T) {
	cases := []struct {
		key   int
		label string
		want  int
	}{
		{5, "", 720832201},
		{0, "", 32762367},
		{-3, "", 49417196},
		{5, "ab", 1905036959},
		{5, "\x00", 686230505},
		{5, "é", 323562},
		{5, "€𝄞", 1616117143},
		{5, "\ufffd", 1327104995},
		{5, "\xff", 941231270},
		{5, "\xc3", 881231090},
		{5, "a\x80b", 724457775},
		{5, "\xed\xa0\x80", 54909103},
		{5, "\xc0\x80", 2123461918},
	}
	for _, c := range cases {
		if got := impl.DeriveFromString(c.key, c.label); got != c.want {
			t.Errorf("DeriveFromString(%d, %q) is %d, not %d", c.key, c.label, got, c.want)
		}
	}
}

func TestDeriveFromStringIsTheKeyedHashOfTheBytes(t *testing.T) {
	labels := []string{"", "a", "ab", "hello", "é", "ñandú", "€", "𝄞𝄞", "e\u0301", "日本", "\ufffd", "a\ufffdb", string(allBytes()),
		"\x00\x00", "\x80", "\xff\xff", "\xc3", "\xc3a", "\xe2\x82", "\xf0\x9d\x84", "\xf4\x90\x80\x80", "\xed\xbf\xbf", "\xc1\xbf", "é\xa9é"}
	for _, key := range keys() {
		for _, label := range labels {
			values := []int{len(label)}
			for i := range len(label) {
				values = append(values, int(label[i]))
			}
			got := impl.DeriveFromString(key, label)
			if want := max(expectedKeyedHash(key, values...), 1); got != want {
				t.Errorf("DeriveFromString(%d, %q) is %d, not %d", key, label, got, want)
			}
			if !impl.IsValidKey(got) {
				t.Errorf("DeriveFromString(%d, %q) is %d, no valid key", key, label, got)
			}
		}
	}
}

// The keys are those for which the keyed hash of the label is 0.
func TestDeriveFromStringIsNeverZero(t *testing.T) {
	cases := []struct {
		key   int
		label string
	}{
		{1310415589, ""},
		{1465621127, "a"},
		{916074962, "ab"},
		{330104210, "é"},
		{922699571, "\xff"},
		{1128782996, "setter"},
	}
	for _, c := range cases {
		for _, key := range []int{c.key, c.key + impl.Modulus, c.key - impl.Modulus} {
			if hash := impl.KeyedHash(key, impl.BytesToInts([]byte(c.label))); hash != 0 {
				t.Errorf("the keyed hash of %d and %q is %d", key, c.label, hash)
			}
			if got := impl.DeriveFromString(key, c.label); got != 1 {
				t.Errorf("DeriveFromString(%d, %q) is %d, not 1", key, c.label, got)
			}
		}
		if next := impl.DeriveFromString(c.key+1, c.label); next <= 1 {
			t.Errorf("DeriveFromString(%d, %q) is %d", c.key+1, c.label, next)
		}
	}
}

func TestHashesKeepTheirArguments(t *testing.T) {
	for _, content := range [][]int{{}, {4}, {-1, impl.Modulus, math.MinInt, 300}} {
		values, whole := intsWithSpare(content...)
		before := slices.Clone(whole)
		impl.Hash(values)
		impl.KeyedHash(3, values)
		impl.KeyedHash(-impl.Modulus, values)
		if !slices.Equal(whole, before) {
			t.Errorf("a hash of %v changed its argument: %v", content, whole)
		}
	}
}

func TestCryptoSharesNoMemory(t *testing.T) {
	for _, content := range [][]byte{{}, {0}, {255, 0, 7}, []byte("hello")} {
		for _, key := range keys() {
			b, whole := withSpare(content...)
			before := slices.Clone(whole)
			fillSpare(impl.Encrypt(key, b))
			fillSpare(impl.Decrypt(key, b))
			impl.BytesToInts(b)
			if !slices.Equal(whole, before) {
				t.Errorf("with key %d, a cipher of %v shares memory with its argument: %v", key, content, whole)
			}
		}
	}
}

func TestCryptoResultsAreTheCallersOwn(t *testing.T) {
	fillSpare(impl.Encrypt(9, []byte("ab")))
	fillSpare(impl.Decrypt(9, []byte("ab")))
	values := impl.BytesToInts([]byte("ab"))
	values[0], values[1] = 77, 77
	if got := impl.BytesToInts([]byte("ab")); !slices.Equal(got, []int{2, 97, 98}) {
		t.Errorf("BytesToInts follows what was done with its last result: %v", got)
	}
	if got := impl.Decrypt(9, impl.Encrypt(9, []byte("ab"))); string(got) != "ab" {
		t.Errorf("a cipher follows what was done with its last result: %v", got)
	}
}

func TestEqualInts(t *testing.T) {
	cases := []struct {
		a, b []int
		want bool
	}{
		{nil, nil, true},
		{nil, []int{}, true},
		{[]int{}, []int{}, true},
		{[]int{0}, []int{0}, true},
		{[]int{1, -2, math.MaxInt, math.MinInt}, []int{1, -2, math.MaxInt, math.MinInt}, true},
		{nil, []int{0}, false},
		{[]int{}, []int{0}, false},
		{[]int{1, 2}, []int{1, 2, 0}, false},
		{[]int{1, 2, 3}, []int{1, 2, 4}, false},
		{[]int{1, 2, 3}, []int{0, 2, 3}, false},
		{[]int{1, 2}, []int{2, 1}, false},
		{[]int{1}, []int{-1}, false},
		{[]int{1}, []int{1 + 1<<32}, false},
		{[]int{math.MaxInt}, []int{math.MinInt}, false},
	}
	for _, c := range cases {
		if got := impl.EqualInts(c.a, c.b); got != c.want {
			t.Errorf("EqualInts(%v, %v) is %t", c.a, c.b, got)
		}
		if got := impl.EqualInts(c.b, c.a); got != c.want {
			t.Errorf("EqualInts(%v, %v) is %t", c.b, c.a, got)
		}
	}
}

func TestEqualIntsKeepsItsArguments(t *testing.T) {
	a, b := []int{3, 1, 2, 9}, []int{3, 1, 2, 8}
	impl.EqualInts(a[:3], b[:3])
	if !slices.Equal(a, []int{3, 1, 2, 9}) || !slices.Equal(b, []int{3, 1, 2, 8}) {
		t.Errorf("EqualInts changed its arguments: %v, %v", a, b)
	}
}
