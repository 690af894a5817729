package impl

import (
	"errors"
	"strconv"
)

// Constants, see chapter 1.
const (
	OK        = 0
	ErrForm   = 1
	ErrSize   = 2
	ErrSyntax = 3
	ErrShort  = 4
	ErrSum    = 5
	ErrNone   = 6
	ErrThere  = 7
	ErrRange  = 8
	ErrFull   = 9
	ErrState  = 10
	MaxBytes  = 8000
	MaxList   = 400
	MaxTime   = 1000000
)

// NumOut is a thing of chapter 2.
type NumOut struct {
	N    int64
	At   int64
	Code int64
}

// TextOut is a thing of chapter 2.
type TextOut struct {
	Text string
	At   int64
	Code int64
}

// The parts of chapter 2's layout that have no exported name.
const (
	numBytes  = 10 // the most bytes that a number takes
	sealBytes = 4  // the bytes of a CRC behind a sealed text
	nameBytes = 20 // the most bytes of a name
	crcBits   = 0xEDB88320
)

// byteFault is what is wrong with bytes that are read: the code that the
// caller is to be told.
type byteFault struct {
	code int64
}

// Error makes a byteFault an error.
func (f byteFault) Error() string {
	return "bytes are not right: code " + strconv.FormatInt(f.code, 10)
}

// faultCode is the code to be told for what reading came to.
func faultCode(err error) int64 {
	if err == nil {
		return OK
	}
	var f byteFault
	if errors.As(err, &f) {
		return f.code
	}
	return ErrForm
}

// joinTexts is both texts, one behind the other.
func joinTexts(a string, b string) string {
	out := make([]byte, len(a)+len(b))
	n := copy(out, a)
	copy(out[n:], b)
	return string(out)
}

// cutText is a part of a text, in memory of its own: an answer shares none
// with an argument.
func cutText(text string, from int64, to int64) string {
	out := make([]byte, to-from)
	copy(out, text[from:to])
	return string(out)
}

// foldSign lays the numbers below 0 between the others, so that numbers near
// 0 are small ones on either side.
func foldSign(n int64) uint64 {
	u := uint64(n) << 1
	if n < 0 {
		return ^u
	}
	return u
}

// unfoldSign takes foldSign back.
func unfoldSign(u uint64) int64 {
	n := int64(u >> 1)
	if u&1 == 1 {
		return ^n
	}
	return n
}

// PutNum writes a number in one to ten bytes.
func PutNum(n int64) string {
	out := make([]byte, 0, numBytes)
	u := foldSign(n)
	for u >= 128 {
		out = append(out, byte(u&127)|128)
		u >>= 7
	}
	return string(append(out, byte(u)))
}

// readNum reads the number at a place of a text, and tells the place behind
// it.
func readNum(text string, at int64) (int64, int64, error) {
	var u uint64
	var b byte
	count := 0
	fault := byteFault{code: ErrSyntax}
	if at < 0 {
		fault.code = ErrForm
		goto wrong
	}
more:
	if at >= int64(len(text)) {
		fault.code = ErrShort
		goto wrong
	}
	b = text[at]
	at++
	count++
	// Nine bytes hold 63 bits: the tenth has room for one bit alone, and
	// so is always the last.
	if count == numBytes && b > 1 {
		goto wrong
	}
	u |= uint64(b&127) << (7 * (count - 1))
	if b < 128 {
		goto last
	}
	goto more
last:
	// A last byte of 0 adds nothing: the number fits in fewer bytes.
	if b == 0 && count > 1 {
		goto wrong
	}
	return unfoldSign(u), at, nil
wrong:
	return 0, 0, fault
}

// GetNum reads the number at a place of a text.
func GetNum(text string, at int64) NumOut {
	if len(text) > MaxBytes {
		return NumOut{Code: ErrSize}
	}
	n, next, err := readNum(text, at)
	return NumOut{N: n, At: next, Code: faultCode(err)}
}

// PutText writes a text behind its length.
func PutText(t string) string {
	if len(t) > MaxBytes {
		return ""
	}
	return joinTexts(PutNum(int64(len(t))), t)
}

// readText reads the text at a place of another, and tells the place behind
// it.
func readText(text string, at int64) (string, int64, error) {
	n, from, err := readNum(text, at)
	if err != nil {
		return "", 0, err
	}
	if n < 0 || n > MaxBytes {
		return "", 0, byteFault{code: ErrSyntax}
	}
	if n > int64(len(text))-from {
		return "", 0, byteFault{code: ErrShort}
	}
	return cutText(text, from, from+n), from + n, nil
}

// GetText reads the text at a place of another.
func GetText(text string, at int64) TextOut {
	if len(text) > MaxBytes {
		return TextOut{Code: ErrSize}
	}
	t, next, err := readText(text, at)
	return TextOut{Text: t, At: next, Code: faultCode(err)}
}

// isLower tells whether a byte is one of a-z.
func isLower(b byte) bool {
	return b >= 'a' && b <= 'z'
}

// isNameByte tells whether a byte may stand in a name behind the first one.
func isNameByte(b byte) bool {
	return isLower(b) || b >= '0' && b <= '9' || b == '_'
}

// NameRight tells whether a text is a name.
func NameRight(t string) bool {
	if len(t) < 1 || len(t) > nameBytes || !isLower(t[0]) {
		return false
	}
	for i := 1; i < len(t); i++ {
		if !isNameByte(t[i]) {
			return false
		}
	}
	return true
}

// crcByte is the CRC's register when one more byte has gone through it.
func crcByte(reg uint32, b byte) uint32 {
	reg ^= uint32(b)
	for range 8 {
		odd := reg&1 == 1
		reg >>= 1
		if odd {
			reg ^= crcBits
		}
	}
	return reg
}

// Crc is the CRC of a text. That of the empty text is 0, so all others go on
// from there.
func Crc(text string) int64 {
	return CrcMore(0, text)
}

// CrcMore is the CRC of a text whose CRC is known and another one behind it.
func CrcMore(crc int64, text string) int64 {
	if len(text) > MaxBytes || crc < 0 || crc > 0xFFFFFFFF {
		return 0
	}
	reg := ^uint32(crc)
	for i := 0; i < len(text); i++ {
		reg = crcByte(reg, text[i])
	}
	return int64(^reg)
}

// crcText is the bytes of a CRC, the lowest first.
func crcText(crc int64) string {
	out := make([]byte, sealBytes)
	for i := range out {
		out[i] = byte(crc >> (8 * i))
	}
	return string(out)
}

// Seal is a text with its CRC behind it.
func Seal(text string) string {
	if len(text) > MaxBytes-sealBytes {
		return ""
	}
	return joinTexts(text, crcText(Crc(text)))
}

// Unseal is the text that was sealed.
func Unseal(text string) TextOut {
	if len(text) > MaxBytes {
		return TextOut{Code: ErrSize}
	}
	if len(text) < sealBytes {
		return TextOut{Code: ErrShort}
	}
	t := cutText(text, 0, int64(len(text)-sealBytes))
	if Seal(t) != text {
		return TextOut{Code: ErrSum}
	}
	return TextOut{Text: t}
}
