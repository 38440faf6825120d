package impl

import "strconv"

const (
	MaxText = 65536
	MaxList = 4096
	MaxName = 12

	OK         = 0
	ErrBad     = 1
	ErrLong    = 2
	ErrForm    = 3
	ErrRange   = 4
	ErrNone    = 5
	ErrMany    = 6
	ErrFull    = 7
	ErrSize    = 8
	ErrSum     = 9
	ErrKind    = 10
	ErrDeep    = 11
	ErrContent = 12
	ErrRoot    = 13
	ErrWait    = 14
	ErrVictim  = 15
	ErrLapsed  = 16
	ErrHeld    = 17
	ErrWork    = 18
	ErrMode    = 19
	ErrOrder   = 20
	ErrSame    = 21
)

// An array and not a slice, so that no caller can be handed a piece of it.
var codeWords = [...]string{
	OK:         "ok",
	ErrBad:     "bad",
	ErrLong:    "long",
	ErrForm:    "form",
	ErrRange:   "range",
	ErrNone:    "none",
	ErrMany:    "many",
	ErrFull:    "full",
	ErrSize:    "size",
	ErrSum:     "sum",
	ErrKind:    "kind",
	ErrDeep:    "deep",
	ErrContent: "content",
	ErrRoot:    "root",
	ErrWait:    "wait",
	ErrVictim:  "victim",
	ErrLapsed:  "lapsed",
	ErrHeld:    "held",
	ErrWork:    "work",
	ErrMode:    "mode",
	ErrOrder:   "order",
	ErrSame:    "same",
}

type wholeNumber interface {
	~int | ~byte
}

func between[N wholeNumber](n, low, high N) bool {
	return low <= n && n <= high
}

func NameOK(t string) bool {
	if len(t) == 0 || len(t) > MaxName || isDigit(t[0]) {
		return false
	}
	for i := 0; i < len(t); i++ {
		if !isNameLetter(t[i]) && !isDigit(t[i]) {
			return false
		}
	}
	return true
}

func isNameLetter(b byte) bool {
	return between(b, 'a', 'z') || between(b, 'A', 'Z') || b == '_'
}

func isDigit(b byte) bool {
	return between(b, '0', '9')
}

// Of at most 18 digits, which any int can hold with either sign.
const widestNumber = 999999999999999999

// numberOf takes a number's text alone: what strconv reads besides (a sign or
// noughts ahead) is told in other bytes.
func numberOf(t string) (int, bool) {
	n, err := strconv.Atoi(t)
	if err != nil || strconv.Itoa(n) != t || !between(n, -widestNumber, widestNumber) {
		return 0, false
	}
	return n, true
}

func CodeWord(code int) string {
	if !between(code, 0, len(codeWords)-1) {
		return ""
	}
	return codeWords[code]
}

func CodeOf(word string) int {
	for code, w := range codeWords {
		if w == word {
			return code
		}
	}
	return -1
}
