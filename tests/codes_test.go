package tests

import (
	"math"
	"strings"
	"testing"

	"loop.example/g00701/impl"
)

// The table of chapter 1, written out again so that a swapped word is seen.
var wordsByCode = []string{
	"ok", "bad", "long", "form", "range", "none", "many", "full", "size", "sum", "kind",
	"deep", "content", "root", "wait", "victim", "lapsed", "held", "work", "mode", "order", "same",
}

func TestP1EachCodeHasItsWord(t *testing.T) {
	for code, word := range wordsByCode {
		if got := impl.CodeWord(code); got != word {
			t.Errorf("CodeWord(%d) = %q, want %q", code, got, word)
		}
		if got := impl.CodeOf(word); got != code {
			t.Errorf("CodeOf(%q) = %d, want %d", word, got, code)
		}
	}
}

func TestP1ConstantsHaveTheirNumbers(t *testing.T) {
	codes := []int{
		impl.OK, impl.ErrBad, impl.ErrLong, impl.ErrForm, impl.ErrRange, impl.ErrNone, impl.ErrMany,
		impl.ErrFull, impl.ErrSize, impl.ErrSum, impl.ErrKind, impl.ErrDeep, impl.ErrContent, impl.ErrRoot,
		impl.ErrWait, impl.ErrVictim, impl.ErrLapsed, impl.ErrHeld, impl.ErrWork, impl.ErrMode,
		impl.ErrOrder, impl.ErrSame,
	}
	for number, code := range codes {
		if code != number {
			t.Errorf("the constant of %q is %d, want %d", wordsByCode[number], code, number)
		}
	}
	if impl.MaxText != 65536 || impl.MaxList != 4096 || impl.MaxName != 12 || impl.MaxNumber != 999999 {
		t.Error("a bound is another one", impl.MaxText, impl.MaxList, impl.MaxName, impl.MaxNumber)
	}
}

func TestP1OtherNumbersHaveNoWord(t *testing.T) {
	for _, code := range []int{-1, -2, 22, 23, 256, 1 << 32, math.MaxInt, math.MinInt} {
		if got := impl.CodeWord(code); got != "" {
			t.Errorf("CodeWord(%d) = %q", code, got)
		}
	}
}

func TestP1OtherTextsHaveNoCode(t *testing.T) {
	words := []string{
		"", " ", "OK", "Ok", "ok ", " ok", "o", "okk", "sam", "same\x00", "ErrBad", "0", "-1",
		zeros(impl.MaxText), zeros(impl.MaxText + 1), "ok" + zeros(impl.MaxText),
		strings.Repeat("bad", impl.MaxText),
	}
	for _, word := range words {
		if got := impl.CodeOf(word); got != -1 {
			t.Errorf("CodeOf(%.20q of %d bytes) = %d", word, len(word), got)
		}
	}
}

func TestP1Names(t *testing.T) {
	names := []string{
		"a", "z", "A", "Z", "_", "a0", "z9", "_9", "__", "text", "Par", "aZ_09",
		strings.Repeat("a", impl.MaxName-1), strings.Repeat("a", impl.MaxName), "_23456789012", "ABCDEFGHIJKL",
	}
	for _, name := range names {
		if !impl.NameOK(name) {
			t.Errorf("NameOK(%q) is false", name)
		}
	}
	others := []string{
		"", "0", "9a", "9", " a", "a ", "a b", "a-b", "-", "a.", "a\x00", "\x00", "\xe4", "a\xff", "ä",
		strings.Repeat("a", impl.MaxName+1), "_234567890123", strings.Repeat("a", impl.MaxText),
		strings.Repeat("a", impl.MaxText+1),
	}
	for _, name := range others {
		if impl.NameOK(name) {
			t.Errorf("NameOK(%.20q of %d bytes) is true", name, len(name))
		}
	}
}

func TestP1NamesByteByByte(t *testing.T) {
	const letters = "abcdefghijklmnopqrstuvwxyzABCDEFGHIJKLMNOPQRSTUVWXYZ_"
	const digits = "0123456789"
	for b := range 256 {
		one := string([]byte{byte(b)})
		if got, want := impl.NameOK(one), strings.Contains(letters, one); got != want {
			t.Errorf("NameOK(%q) = %v", one, got)
		}
		for _, name := range []string{"a" + one, "a" + one + "a", "abcdefghijk" + one} {
			if got, want := impl.NameOK(name), strings.Contains(letters+digits, one); got != want {
				t.Errorf("NameOK(%q) = %v", name, got)
			}
		}
	}
}

func zeros(n int) string {
	return string(make([]byte, n))
}
