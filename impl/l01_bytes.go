package impl

import (
	"errors"
	"strconv"
)

const MaxNumber = 999999

const (
	bitsAByte   = 7
	upperBit    = 1 << bitsAByte
	numberBytes = 3 // what MaxNumber takes

	frameLetters = "CO"
	frameSpare   = 16 // keeps a whole frame within MaxText, so that it can be read back
	frameLeast   = 5
	sumBytes     = 2
	sumFactor    = 31
	sumModulus   = 65521

	hexDigits = "0123456789abcdef"
)

// The inner functions tell faults as errors and ask no MaxText, since later
// layers read what is longer; the exported ones ask it and tell codes.
var (
	errForm  = errors.New("no such thing")
	errRange = errors.New("a number that is out of its bounds")
	errSize  = errors.New("of another length")
	errSum   = errors.New("a sum that is wrong")
)

// boundsError wraps what leaving the bounds counts as: a place out of its
// bounds is a wrong size, a number out of its bounds a wrong range.
type boundsError struct {
	value, low, high int
	fault            error
}

func (e boundsError) Error() string {
	return e.fault.Error() + ": " + strconv.Itoa(e.value) +
		" is not from " + strconv.Itoa(e.low) + " to " + strconv.Itoa(e.high)
}

func (e boundsError) Unwrap() error {
	return e.fault
}

func codeOfFault(err error) int {
	switch {
	case err == nil:
		return OK
	case errors.Is(err, errForm):
		return ErrForm
	case errors.Is(err, errRange):
		return ErrRange
	case errors.Is(err, errSize):
		return ErrSize
	case errors.Is(err, errSum):
		return ErrSum
	}
	return ErrBad
}

func checkBounds[N wholeNumber](n, low, high N, fault error) error {
	if between(n, low, high) {
		return nil
	}
	return boundsError{int(n), int(low), int(high), fault}
}

func PutNumber(n int) (string, int) {
	if err := checkBounds(n, 0, MaxNumber, errRange); err != nil {
		return "", codeOfFault(err)
	}
	return putNumber(n), OK
}

func putNumber(n int) string {
	var out []byte
	for n >= upperBit {
		out = append(out, byte(n%upperBit+upperBit))
		n /= upperBit
	}
	return string(append(out, byte(n)))
}

func TakeNumber(t string, at int) (int, int) {
	if len(t) > MaxText {
		return 0, ErrLong
	}
	n, _, err := takeNumber(t, at)
	return n, codeOfFault(err)
}

// takeNumber answers the place behind the number, too.
func takeNumber(t string, at int) (int, int, error) {
	if err := checkBounds(at, 0, len(t), errSize); err != nil {
		return 0, 0, err
	}
	n := 0
	for i := 0; i < numberBytes; i++ {
		if at+i == len(t) {
			return 0, 0, errSize
		}
		b := t[at+i]
		n += int(b%upperBit) << (bitsAByte * i)
		if b >= upperBit {
			continue
		}
		if b == 0 && i > 0 {
			return 0, 0, errForm
		}
		if err := checkBounds(n, 0, MaxNumber, errRange); err != nil {
			return 0, 0, err
		}
		return n, at + i + 1, nil
	}
	return 0, 0, errRange
}

func PutText(t string) (string, int) {
	if len(t) > MaxText {
		return "", ErrLong
	}
	return putText(t), OK
}

func putText(t string) string {
	return putNumber(len(t)) + t
}

func TakeText(t string, at int) (string, int, int) {
	if len(t) > MaxText {
		return "", 0, ErrLong
	}
	text, next, err := takeText(t, at)
	return text, next, codeOfFault(err)
}

func takeText(t string, at int) (string, int, error) {
	length, from, err := takeNumber(t, at)
	if err != nil {
		return "", 0, err
	}
	if err := checkBounds(length, 0, len(t)-from, errSize); err != nil {
		return "", 0, err
	}
	next := from + length
	return newText(t[from:next]), next, nil
}

// newText copies, since a piece of a text shares that text's memory.
func newText(t string) string {
	return string([]byte(t))
}

func SumOf(t string) int {
	if len(t) > MaxText {
		return 0
	}
	return sumOf(t)
}

func sumOf(t string) int {
	sum := 1
	for i := 0; i < len(t); i++ {
		sum = (sumFactor*sum + int(t[i])) % sumModulus
	}
	return sum
}

func sumText(t string) string {
	sum := sumOf(t)
	return string([]byte{byte(sum % 256), byte(sum / 256)})
}

func FrameText(t string) (string, int) {
	if len(t) > MaxText {
		return "", ErrLong
	}
	if len(t) > MaxText-frameSpare {
		return "", ErrSize
	}
	return frameText(t), OK
}

func frameText(t string) string {
	ahead := frameLetters + putText(t)
	return ahead + sumText(ahead)
}

func ReadFrame(t string) (string, int) {
	if len(t) > MaxText {
		return "", ErrLong
	}
	text, err := readFrame(t)
	return text, codeOfFault(err)
}

func readFrame(t string) (string, error) {
	letters := len(frameLetters)
	if len(t) < frameLeast || t[:letters] != frameLetters {
		return "", errForm
	}
	text, next, err := takeText(t, letters)
	if err != nil {
		return "", err
	}
	if err := checkBounds(len(t)-next, sumBytes, sumBytes, errSize); err != nil {
		return "", err
	}
	if t[next:] != sumText(t[:next]) {
		return "", errSum
	}
	return text, nil
}

func HexOf(t string) string {
	if len(t) > MaxText/2 {
		return ""
	}
	return hexOf(t)
}

func hexOf(t string) string {
	out := make([]byte, 0, 2*len(t))
	for i := 0; i < len(t); i++ {
		out = append(out, hexDigits[t[i]/16], hexDigits[t[i]%16])
	}
	return string(out)
}

func BytesOf(t string) (string, int) {
	if len(t) > MaxText {
		return "", ErrLong
	}
	text, err := bytesOf(t)
	return text, codeOfFault(err)
}

func bytesOf(t string) (string, error) {
	if len(t)%2 != 0 {
		return "", errForm
	}
	out := make([]byte, 0, len(t)/2)
	for i := 0; i < len(t); i += 2 {
		upper, err := digitOf(t[i])
		if err != nil {
			return "", err
		}
		lower, err := digitOf(t[i+1])
		if err != nil {
			return "", err
		}
		out = append(out, 16*upper+lower)
	}
	return string(out), nil
}

func digitOf(b byte) (byte, error) {
	if isDigit(b) {
		return b - '0', nil
	}
	if err := checkBounds(b, 'a', 'f', errForm); err != nil {
		return 0, err
	}
	return b - 'a' + 10, nil
}
