package tests

import (
	"encoding/hex"
	"strings"
	"testing"

	"loop.example/g00701/impl"
)

func TestP2HexBothWays(t *testing.T) {
	for bytes, digits := range map[string]string{
		"": "", "\x00": "00", "\xff": "ff", "\x0f\xf0": "0ff0", "\x9a\xa9": "9aa9", "abc": "616263", "\x01\x23\x45\x67\x89\xab\xcd\xef": "0123456789abcdef",
	} {
		if got := impl.HexOf(bytes); got != digits {
			t.Errorf("HexOf(%q) = %q", bytes, got)
		}
		if got, code := impl.BytesOf(digits); got != bytes || code != impl.OK {
			t.Errorf("BytesOf(%q) = %q, %d", digits, got, code)
		}
	}
	for _, text := range textsOfAllKinds() {
		if len(text) > impl.MaxText/2 {
			continue
		}
		digits := impl.HexOf(text)
		if digits != hex.EncodeToString([]byte(text)) {
			t.Errorf("HexOf of %d bytes: %.20q", len(text), digits)
		}
		if got, code := impl.BytesOf(digits); got != text || code != impl.OK {
			t.Errorf("BytesOf of %d digits: %d bytes, %d", len(digits), len(got), code)
		}
	}
}

func TestP2HexOfLongTexts(t *testing.T) {
	half := strings.Repeat("\xa5", impl.MaxText/2)
	digits := impl.HexOf(half)
	if digits != strings.Repeat("a5", impl.MaxText/2) {
		t.Error("half of MaxText bytes", len(digits))
	}
	if got, code := impl.BytesOf(digits); got != half || code != impl.OK {
		t.Error("MaxText digits", len(got), code)
	}
	for _, length := range []int{impl.MaxText/2 + 1, impl.MaxText, impl.MaxText + 1} {
		if got := impl.HexOf(zeros(length)); got != "" {
			t.Error("HexOf", length, len(got))
		}
	}
	for _, long := range []string{digits + "0", digits + "00", digits + "G", zeros(impl.MaxText + 1)} {
		if got, code := impl.BytesOf(long); got != "" || code != impl.ErrLong {
			t.Error("BytesOf", len(long), len(got), code)
		}
	}
	if got, code := impl.BytesOf(digits[1:]); got != "" || code != impl.ErrForm {
		t.Error("MaxText - 1 digits", len(got), code)
	}
}

func TestP2WrongHex(t *testing.T) {
	for _, digits := range []string{
		"0", "f", "000", "fffff", "0G", "G0", "g0", "0g", "AF", "aF", "Fa", "0A", " 0", "0 ", "00 ", " 00", "0x", "-1", "+1",
		"0\n", "00\n0", "/0", "0:", "0`", "0@", "\xff\xff", "\x00\x00", "0000G0", "00000G", "G00000",
	} {
		if got, code := impl.BytesOf(digits); got != "" || code != impl.ErrForm {
			t.Errorf("BytesOf(%q) = %q, %d", digits, got, code)
		}
	}
}

// Of all pairs of bytes, just those that HexOf tells are a byte's digits.
func TestP2NoOtherPairsAreDigits(t *testing.T) {
	const digits = "0123456789abcdef"
	for upper := range 256 {
		for lower := range 256 {
			pair := string([]byte{byte(upper), byte(lower)})
			u, l := strings.IndexByte(digits, byte(upper)), strings.IndexByte(digits, byte(lower))
			text, code := impl.BytesOf(pair)
			if u < 0 || l < 0 {
				if text != "" || code != impl.ErrForm {
					t.Errorf("BytesOf(%q) = %q, %d", pair, text, code)
				}
			} else if text != string([]byte{byte(16*u + l)}) || code != impl.OK || impl.HexOf(text) != pair {
				t.Errorf("BytesOf(%q) = %q, %d", pair, text, code)
			}
		}
	}
}
