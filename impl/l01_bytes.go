package impl

import (
	"errors"
	"strconv"
)

// Constants, see chapter 1.
const (
	OK        = 0
	ErrForm   = 1
	ErrSize   = 2
	ErrSyntax = 3
	ErrShort  = 4
	ErrSum    = 5
	ErrNone   = 6
	ErrThere  = 7
	ErrRange  = 8
	ErrFull   = 9
	ErrLoop   = 10
	MaxBytes  = 8000
	MaxList   = 400
	MaxTime   = 1000000
)

const (
	numBytes   = 10 // 64 bits, seven a byte
	tenthShift = 7 * (numBytes - 1)
	tenthMost  = 1 // nine bytes hold 63 bits: one bit is left for the tenth
	moreBit    = 128
	nameBytes  = 20
	crcTaps    = 0xEDB88320
	crcMost    = 1<<32 - 1
	sumBytes   = 4
)

// NumOut is a thing of chapter 2.
type NumOut struct {
	N    int64
	At   int64
	Code int64
}

// TextOut is a thing of chapter 2.
type TextOut struct {
	Text string
	At   int64
	Code int64
}

// wrongBytes is the error of bytes that can't be read; it carries the code
// that the exported call tells.
type wrongBytes struct {
	code int64
}

func (w wrongBytes) Error() string {
	return "bytes that can't be read, code " + strconv.FormatInt(w.code, 10)
}

// bytesCode takes the code out of what readNum and readText tell.
func bytesCode(err error) int64 {
	var wrong wrongBytes
	if errors.As(err, &wrong) {
		return wrong.code
	}
	return OK
}

// joined is always new memory, also of one text: an answer that were a piece
// of an argument would share its bytes.
func joined(texts ...string) string {
	size := 0
	for _, t := range texts {
		size += len(t)
	}
	all := make([]byte, size)
	at := 0
	for _, t := range texts {
		at += copy(all[at:], t)
	}
	return string(all)
}

// PutNum: see chapter 2.
func PutNum(n int64) string {
	u := uint64(n)<<1 ^ uint64(n>>63)
	var all [numBytes]byte
	last := 0
	for u >= moreBit {
		all[last] = byte(u) | moreBit
		u >>= 7
		last++
	}
	all[last] = byte(u)
	return string(all[:last+1])
}

// readBits reads the bytes of one number from a place that is not below 0,
// and tells the place behind them.
func readBits(text string, at int64) (uint64, int64, error) {
	var (
		u     uint64
		shift uint
		b     byte
		code  int64 = ErrSyntax
	)
more:
	if at >= int64(len(text)) {
		code = ErrShort
		goto wrong
	}
	b = text[at]
	at++
	// This also ends the loop: a tenth byte with more behind it is above 1.
	if shift == tenthShift && b > tenthMost {
		goto wrong
	}
	u |= uint64(b%moreBit) << shift
	if b < moreBit {
		goto last
	}
	shift += 7
	goto more
last:
	// A last byte of 0 adds nothing: fewer bytes would have done.
	if b == 0 && shift > 0 {
		goto wrong
	}
	return u, at, nil
wrong:
	return 0, 0, wrongBytes{code}
}

// readNum tells the number at a place and the place behind it; beside an
// error both are 0.
func readNum(text string, at int64) (int64, int64, error) {
	if len(text) > MaxBytes {
		return 0, 0, wrongBytes{ErrSize}
	}
	if at < 0 {
		return 0, 0, wrongBytes{ErrForm}
	}
	u, next, err := readBits(text, at)
	return int64(u>>1) ^ -int64(u&1), next, err
}

// readText tells the text at a place and the place behind it; beside an
// error both are zero.
func readText(text string, at int64) (string, int64, error) {
	size, from, err := readNum(text, at)
	if err != nil {
		return "", 0, err
	}
	if size < 0 || size > MaxBytes {
		return "", 0, wrongBytes{ErrSyntax}
	}
	if size > int64(len(text))-from {
		return "", 0, wrongBytes{ErrShort}
	}
	return joined(text[from : from+size]), from + size, nil
}

// GetNum: see chapter 2.
func GetNum(text string, at int64) NumOut {
	n, next, err := readNum(text, at)
	return NumOut{N: n, At: next, Code: bytesCode(err)}
}

// PutText: see chapter 2.
func PutText(t string) string {
	if len(t) > MaxBytes {
		return ""
	}
	return joined(PutNum(int64(len(t))), t)
}

// GetText: see chapter 2.
func GetText(text string, at int64) TextOut {
	t, next, err := readText(text, at)
	return TextOut{Text: t, At: next, Code: bytesCode(err)}
}

func isLetter(b byte) bool {
	return 'a' <= b && b <= 'z'
}

func isDigit(b byte) bool {
	return '0' <= b && b <= '9'
}

// NameRight: see chapter 2.
func NameRight(t string) bool {
	if len(t) < 1 || len(t) > nameBytes || !isLetter(t[0]) {
		return false
	}
	for i := range len(t) {
		if b := t[i]; !isLetter(b) && !isDigit(b) && b != '_' {
			return false
		}
	}
	return true
}

// crcStep takes a whole byte at once: its bits meet the register's low bits
// one by one as the register is shifted down.
func crcStep(register uint32, b byte) uint32 {
	register ^= uint32(b)
	for range 8 {
		low := register & 1
		register >>= 1
		if low == 1 {
			register ^= crcTaps
		}
	}
	return register
}

// Crc: see chapter 2.
func Crc(text string) int64 {
	return CrcMore(0, text) // 0 is the CRC of the empty text
}

// CrcMore: see chapter 2.
func CrcMore(crc int64, text string) int64 {
	if len(text) > MaxBytes || crc < 0 || crc > crcMost {
		return 0
	}
	register := ^uint32(crc)
	for i := range len(text) {
		register = crcStep(register, text[i])
	}
	return int64(^register)
}

// sumOf is the CRC of a text as the bytes that Seal puts behind it.
func sumOf(text string) string {
	crc := Crc(text)
	var sum [sumBytes]byte
	for i := range sum {
		sum[i] = byte(crc >> (8 * i))
	}
	return string(sum[:])
}

// Seal: see chapter 2.
func Seal(text string) string {
	if len(text) > MaxBytes-sumBytes {
		return ""
	}
	return joined(text, sumOf(text))
}

// Unseal: see chapter 2.
func Unseal(text string) TextOut {
	if len(text) > MaxBytes {
		return TextOut{Code: ErrSize}
	}
	if len(text) < sumBytes {
		return TextOut{Code: ErrShort}
	}
	inner := text[:len(text)-sumBytes]
	if Seal(inner) != text {
		return TextOut{Code: ErrSum}
	}
	return TextOut{Text: joined(inner)}
}
