package tests

import (
	"encoding/binary"
	"hash/crc32"
	"math"
	"math/rand"
	"strings"
	"testing"

	"loop.example/g00828/impl"
)

// same fails the test if an answer is not the one that is wanted.
func same[T comparable](t *testing.T, what string, got T, want T) {
	t.Helper()
	if got != want {
		t.Errorf("%s: got %#v, want %#v", what, got, want)
	}
}

// enough fails the test if something was met with less often than that: random
// inputs that never come to it test nothing.
func enough(t *testing.T, count map[string]int, least map[string]int) {
	t.Helper()
	for what, n := range least {
		if count[what] < n {
			t.Errorf("%d times %q: too few of %v", count[what], what, count)
		}
	}
}

// someNumbers holds the numbers next to each border between lengths, on both
// sides of 0, and a few from all over.
func someNumbers() []int64 {
	out := []int64{0, math.MinInt64, math.MinInt64 + 1, math.MaxInt64, math.MaxInt64 - 1}
	for bit := range 63 {
		n := int64(1) << bit
		out = append(out, n-1, n, n+1, -n-1, -n, -n+1)
	}
	r := rand.New(rand.NewSource(1))
	for range 2000 {
		out = append(out, int64(r.Uint64()>>r.Intn(64)), -int64(r.Uint64()>>r.Intn(64)))
	}
	return out
}

// someText is a text of that many bytes, of all values.
func someText(n int) string {
	out := make([]byte, n)
	r := rand.New(rand.NewSource(int64(n)))
	r.Read(out)
	return string(out)
}

// Promise 1.

func TestPutNumBytes(t *testing.T) {
	nine := strings.Repeat("\xff", 9)
	cases := []struct {
		n    int64
		want string
	}{
		{0, "\x00"},
		{-1, "\x01"},
		{1, "\x02"},
		{-2, "\x03"},
		{63, "\x7e"},
		{-64, "\x7f"},
		{64, "\x80\x01"},
		{-65, "\x81\x01"},
		{8191, "\xfe\x7f"},
		{8192, "\x80\x80\x01"},
		{1<<62 - 1, "\xfe" + nine[:7] + "\x7f"},
		{1 << 62, "\x80\x80\x80\x80\x80\x80\x80\x80\x80\x01"},
		{math.MaxInt64, "\xfe" + nine[:8] + "\x01"},
		{math.MinInt64, nine + "\x01"},
	}
	for _, c := range cases {
		same(t, "PutNum", impl.PutNum(c.n), c.want)
	}
}

func TestPutNumIsVarint(t *testing.T) {
	for _, n := range someNumbers() {
		same(t, "PutNum", impl.PutNum(n), string(binary.AppendVarint(nil, n)))
	}
}

func TestNumComesBack(t *testing.T) {
	for _, n := range someNumbers() {
		p := impl.PutNum(n)
		k := int64(len(p))
		same(t, "GetNum alone", impl.GetNum(p, 0), impl.NumOut{N: n, At: k})
		same(t, "GetNum amid others", impl.GetNum("\xff\x80"+p+"\xff", 2), impl.NumOut{N: n, At: k + 2})
		for i := range p {
			same(t, "GetNum cut off", impl.GetNum(p[:i], 0), impl.NumOut{Code: impl.ErrShort})
		}
	}
}

func TestGetNumFaults(t *testing.T) {
	eight := strings.Repeat("\x80", 8)
	nine := eight + "\x80"
	full := strings.Repeat("\xff", 9)
	cases := []struct {
		what string
		text string
		at   int64
		code int64
	}{
		{"below 0", "\x00", -1, impl.ErrForm},
		{"far below 0", "\x00", math.MinInt64, impl.ErrForm},
		{"below 0, nothing there", "", -1, impl.ErrForm},
		{"nothing there", "", 0, impl.ErrShort},
		{"at the end", "\x00", 1, impl.ErrShort},
		{"behind the end", "\x00", 2, impl.ErrShort},
		{"far behind the end", "\x00", math.MaxInt64, impl.ErrShort},
		{"one byte, more wanted", "\x80", 0, impl.ErrShort},
		{"nine bytes, more wanted", nine, 0, impl.ErrShort},
		{"tenth byte 2", nine + "\x02", 0, impl.ErrSyntax},
		{"tenth byte 2, all bits", full + "\x02", 0, impl.ErrSyntax},
		{"tenth byte 127", nine + "\x7f", 0, impl.ErrSyntax},
		{"tenth byte 128, then the end", nine + "\x80", 0, impl.ErrSyntax},
		{"tenth byte 129, then more", nine + "\x81\x00", 0, impl.ErrSyntax},
		{"tenth byte 255", full + "\xff", 0, impl.ErrSyntax},
		{"0 in two bytes", "\x80\x00", 0, impl.ErrSyntax},
		{"1 in two bytes", "\x82\x00", 0, impl.ErrSyntax},
		{"64 in three bytes", "\x80\x81\x00", 0, impl.ErrSyntax},
		{"0 in nine bytes", eight + "\x00", 0, impl.ErrSyntax},
		{"0 in ten bytes", nine + "\x00", 0, impl.ErrSyntax},
		{"nine bytes are enough", full + "\x00", 0, impl.ErrSyntax},
	}
	for _, c := range cases {
		same(t, c.what, impl.GetNum(c.text, c.at), impl.NumOut{Code: c.code})
		same(t, c.what+", of a text", impl.GetText(c.text, c.at), impl.TextOut{Code: c.code})
	}
}

// Each text of up to three bytes holds a number just if it begins with that
// number's bytes.
func TestGetNumTakesOneSpelling(t *testing.T) {
	check := func(text string) {
		out := impl.GetNum(text, 0)
		if out.Code == impl.OK {
			same(t, "bytes", impl.PutNum(out.N), text[:out.At])
			return
		}
		same(t, "beside a code", out, impl.NumOut{Code: out.Code})
	}
	for a := range 256 {
		check(string([]byte{byte(a)}))
		for b := range 256 {
			check(string([]byte{byte(a), byte(b)}))
			check(string([]byte{byte(a) | 128, byte(b), byte(a ^ b)}))
		}
	}
}

func TestGetNumSize(t *testing.T) {
	most := strings.Repeat("\x00", impl.MaxBytes)
	same(t, "most", impl.GetNum(most, impl.MaxBytes-1), impl.NumOut{At: impl.MaxBytes})
	same(t, "behind the most", impl.GetNum(most, impl.MaxBytes), impl.NumOut{Code: impl.ErrShort})
	for _, at := range []int64{-1, 0, impl.MaxBytes, impl.MaxBytes + 5} {
		same(t, "too much", impl.GetNum(most+"\x00", at), impl.NumOut{Code: impl.ErrSize})
		same(t, "too much text", impl.GetText(most+"\x00", at), impl.TextOut{Code: impl.ErrSize})
	}
}

func TestPutText(t *testing.T) {
	same(t, "empty", impl.PutText(""), "\x00")
	same(t, "short", impl.PutText("ab"), "\x04ab")
	same(t, "64 bytes", impl.PutText(strings.Repeat("q", 64)), "\x80\x01"+strings.Repeat("q", 64))
	most := someText(impl.MaxBytes)
	same(t, "most", impl.PutText(most), "\x80\x7d"+most)
	same(t, "one more", impl.PutText(most+"x"), "")
}

func TestTextComesBack(t *testing.T) {
	for _, n := range []int{0, 1, 2, 63, 64, 65, 500, impl.MaxBytes - 3, impl.MaxBytes - 2} {
		x := someText(n)
		p := impl.PutText(x)
		same(t, "GetText alone", impl.GetText(p, 0), impl.TextOut{Text: x, At: int64(len(p))})
	}
	for n := range 200 {
		x := someText(n)
		p := impl.PutText(x)
		same(t, "GetText amid others", impl.GetText("\xff"+p+"\x80", 1), impl.TextOut{Text: x, At: int64(len(p)) + 1})
		for i := range len(p) {
			same(t, "GetText cut off", impl.GetText(p[:i], 0), impl.TextOut{Code: impl.ErrShort})
		}
	}
}

// A text of more than MaxBytes less 2 bytes has no room behind its length.
func TestTextThatDoesNotFitIn(t *testing.T) {
	for _, n := range []int{impl.MaxBytes - 1, impl.MaxBytes} {
		p := impl.PutText(someText(n))
		same(t, "written", len(p), n+2)
		same(t, "too long", impl.GetText(p, 0), impl.TextOut{Code: impl.ErrSize})
	}
}

func TestGetTextFaults(t *testing.T) {
	cases := []struct {
		what string
		text string
		at   int64
		code int64
	}{
		{"length -1", "\x01abc", 0, impl.ErrSyntax},
		{"length -1, then the end", "\x01", 0, impl.ErrSyntax},
		{"the least length", impl.PutNum(math.MinInt64), 0, impl.ErrSyntax},
		{"the greatest length", impl.PutNum(math.MaxInt64), 0, impl.ErrSyntax},
		{"length MaxBytes+1", impl.PutNum(impl.MaxBytes + 1), 0, impl.ErrSyntax},
		{"length MaxBytes", impl.PutNum(impl.MaxBytes), 0, impl.ErrShort},
		{"one byte less", "\x06ab", 0, impl.ErrShort},
		{"behind the end", "\x02a", 3, impl.ErrShort},
		{"below 0", "\x02a", -1, impl.ErrForm},
	}
	for _, c := range cases {
		same(t, c.what, impl.GetText(c.text, c.at), impl.TextOut{Code: c.code})
	}
	same(t, "empty at the end", impl.GetText("a\x00", 1), impl.TextOut{At: 2})
}

func TestNameRight(t *testing.T) {
	twenty := "a" + strings.Repeat("_", 19)
	for _, x := range []string{"a", "z", "a_9", "a0", "zz_", "m9z", twenty} {
		same(t, "a name "+x, impl.NameRight(x), true)
	}
	for _, x := range []string{"", "_a", "9", "0a", "A", "aB", "a b", "a-", " a", "a\n", "ä", "a\xff", "a\x00", twenty + "a", strings.Repeat("a", impl.MaxBytes+1)} {
		same(t, "no name "+x, impl.NameRight(x), false)
	}
	for b := range 256 {
		low := b >= 'a' && b <= 'z'
		all := low || b >= '0' && b <= '9' || b == '_'
		same(t, "first byte", impl.NameRight(string([]byte{byte(b)})), low)
		same(t, "second byte", impl.NameRight(string([]byte{'a', byte(b)})), all)
		same(t, "last byte", impl.NameRight(string([]byte{'a', 'b', byte(b)})), all)
	}
}

// Promise 2.

func TestCrcKnown(t *testing.T) {
	same(t, "empty", impl.Crc(""), 0)
	same(t, "digits", impl.Crc("123456789"), 0xCBF43926)
	same(t, "a", impl.Crc("a"), 0xE8B7BE43)
	for _, n := range []int{1, 2, 3, 100, 4097, impl.MaxBytes} {
		x := someText(n)
		same(t, "as the library has it", impl.Crc(x), int64(crc32.ChecksumIEEE([]byte(x))))
	}
	for b := range 256 {
		x := string([]byte{byte(b)})
		same(t, "of one byte", impl.Crc(x), int64(crc32.ChecksumIEEE([]byte(x))))
	}
	same(t, "too much", impl.Crc(someText(impl.MaxBytes+1)), 0)
}

func TestCrcGoesOn(t *testing.T) {
	for _, n := range []int{0, 1, 2, 50, 300} {
		x := someText(n)
		for i := range n + 1 {
			same(t, "both", impl.CrcMore(impl.Crc(x[:i]), x[i:]), impl.Crc(x))
		}
	}
	most := someText(impl.MaxBytes)
	both := int64(crc32.ChecksumIEEE([]byte(most + most)))
	same(t, "longer than one may be", impl.CrcMore(impl.Crc(most), most), both)
}

func TestCrcMoreFaults(t *testing.T) {
	const top = 1<<32 - 1
	for _, crc := range []int64{0, 1, 77, 1 << 31, top} {
		same(t, "nothing behind", impl.CrcMore(crc, ""), crc)
		want := int64(crc32.Update(uint32(crc), crc32.IEEETable, []byte("ab")))
		same(t, "some behind", impl.CrcMore(crc, "ab"), want)
		same(t, "too much behind", impl.CrcMore(crc, someText(impl.MaxBytes+1)), 0)
	}
	for _, crc := range []int64{-1, math.MinInt64, top + 1, top + 2, math.MaxInt64} {
		same(t, "no CRC", impl.CrcMore(crc, "ab"), 0)
		same(t, "no CRC, nothing behind", impl.CrcMore(crc, ""), 0)
	}
}

func TestSeal(t *testing.T) {
	same(t, "empty", impl.Seal(""), "\x00\x00\x00\x00")
	same(t, "digits", impl.Seal("123456789"), "123456789\x26\x39\xf4\xcb")
	most := someText(impl.MaxBytes - 4)
	same(t, "most", len(impl.Seal(most)), impl.MaxBytes)
	same(t, "one more", impl.Seal(most+"x"), "")
	same(t, "far more", impl.Seal(someText(impl.MaxBytes+1)), "")
}

func TestSealedComesBack(t *testing.T) {
	for _, n := range []int{0, 1, 2, 3, 4, 5, 100, 4000, impl.MaxBytes - 5, impl.MaxBytes - 4} {
		x := someText(n)
		same(t, "Unseal", impl.Unseal(impl.Seal(x)), impl.TextOut{Text: x})
	}
}

func TestTurnedIsRefused(t *testing.T) {
	for _, n := range []int{0, 1, 2, 9} {
		s := impl.Seal(someText(n))
		for i := range len(s) {
			for turn := 1; turn < 256; turn++ {
				b := []byte(s)
				b[i] ^= byte(turn)
				same(t, "turned", impl.Unseal(string(b)), impl.TextOut{Code: impl.ErrSum})
			}
		}
	}
	b := []byte(impl.Seal(someText(impl.MaxBytes - 4)))
	for _, i := range []int{0, 1, 4000, impl.MaxBytes - 5, impl.MaxBytes - 4, impl.MaxBytes - 1} {
		b[i] ^= 16
		same(t, "turned in the most", impl.Unseal(string(b)), impl.TextOut{Code: impl.ErrSum})
		b[i] ^= 16
	}
}

func TestUnsealFaults(t *testing.T) {
	for _, x := range []string{"", "a", "\x00\x00", "\x00\x00\x00"} {
		same(t, "fewer than four", impl.Unseal(x), impl.TextOut{Code: impl.ErrShort})
	}
	same(t, "four bytes", impl.Unseal("\x00\x00\x00\x00"), impl.TextOut{})
	same(t, "four others", impl.Unseal("abcd"), impl.TextOut{Code: impl.ErrSum})
	same(t, "highest first", impl.Unseal("123456789\xcb\xf4\x39\x26"), impl.TextOut{Code: impl.ErrSum})
	same(t, "most, not sealed", impl.Unseal(strings.Repeat("a", impl.MaxBytes)), impl.TextOut{Code: impl.ErrSum})
	same(t, "one more", impl.Unseal(strings.Repeat("a", impl.MaxBytes+1)), impl.TextOut{Code: impl.ErrSize})
}
