package tests

import (
	"math"
	"strings"
	"testing"

	"loop.example/g00701/impl"
)

func TestP2TextsAreReadBack(t *testing.T) {
	for _, text := range textsOfAllKinds() {
		bytes, code := impl.PutText(text)
		length, _ := impl.PutNumber(len(text))
		if bytes != length+text || code != impl.OK {
			t.Errorf("PutText of %d bytes: %.20x, %d", len(text), bytes, code)
		}
		if len(bytes) > impl.MaxText {
			continue
		}
		if got, next, code := impl.TakeText(bytes, 0); got != text || next != len(bytes) || code != impl.OK {
			t.Errorf("TakeText of %d bytes: %d bytes, %d, %d", len(text), len(got), next, code)
		}
	}
}

func TestP2TextsOfAnyLength(t *testing.T) {
	for length, head := range map[int]string{
		0: "\x00", 1: "\x01", 127: "\x7f", 128: "\x80\x01", 16383: "\xff\x7f", 16384: "\x80\x80\x01",
		impl.MaxText - 1: "\xff\xff\x03", impl.MaxText: "\x80\x80\x04",
	} {
		text := strings.Repeat("q", length)
		if got, code := impl.PutText(text); got != head+text || code != impl.OK {
			t.Errorf("PutText of %d bytes: %.8x, %d", length, got, code)
		}
	}
	for _, length := range []int{impl.MaxText + 1, impl.MaxNumber, impl.MaxNumber + 1} {
		if got, code := impl.PutText(zeros(length)); got != "" || code != impl.ErrLong {
			t.Errorf("PutText of %d bytes: %d bytes, %d", length, len(got), code)
		}
	}
}

func TestP2TextsStandAmongOtherBytes(t *testing.T) {
	for _, v := range []struct {
		bytes string
		at    int
		text  string
		next  int
	}{
		{"\x00", 0, "", 1}, {"\x00x", 0, "", 1}, {"x\x00", 1, "", 2}, {"\x03abc", 0, "abc", 4},
		{"x\x03abcd", 1, "abc", 5}, {"\x01\x02\x03\x04", 1, "\x03\x04", 4}, {"\x80\x01\x00\x02", 1, "\x00", 3},
		{"\xff\x80\x01" + strings.Repeat("y", 129), 1, strings.Repeat("y", 128), 131},
	} {
		if got, next, code := impl.TakeText(v.bytes, v.at); got != v.text || next != v.next || code != impl.OK {
			t.Errorf("TakeText(%.20x, %d) = %q, %d, %d", v.bytes, v.at, got, next, code)
		}
	}
}

func TestP2WrongBytesOfTexts(t *testing.T) {
	for _, v := range []struct {
		bytes string
		at    int
		code  int
	}{
		{"", 0, impl.ErrSize}, {"", 1, impl.ErrSize}, {"", -1, impl.ErrSize}, {"\x00", 1, impl.ErrSize}, {"\x00", 2, impl.ErrSize},
		{"\x00", -1, impl.ErrSize}, {"\x00", math.MaxInt, impl.ErrSize}, {"\x00", math.MinInt, impl.ErrSize},
		{"\x01", 0, impl.ErrSize}, {"\x03ab", 0, impl.ErrSize}, {"xx\x03ab", 2, impl.ErrSize}, {"\x80", 0, impl.ErrSize}, {"\x80\x80", 0, impl.ErrSize},
		{"\x80\x01" + strings.Repeat("y", 127), 0, impl.ErrSize}, {"\xbf\x84\x3dabc", 0, impl.ErrSize},
		{"\x80\x00", 0, impl.ErrForm}, {"\x83\x00abc", 0, impl.ErrForm}, {"\x83\x80\x00abc", 0, impl.ErrForm},
		{"\x80\x80\x80\x01", 0, impl.ErrRange}, {"\xc0\x84\x3dabc", 0, impl.ErrRange}, {"\xff\xff\x7f", 0, impl.ErrRange},
	} {
		if got, next, code := impl.TakeText(v.bytes, v.at); got != "" || next != 0 || code != v.code {
			t.Errorf("TakeText(%.20x, %d) = %q, %d, %d, want code %d", v.bytes, v.at, got, next, code, v.code)
		}
	}
}

func TestP2LongTextsOfTexts(t *testing.T) {
	greatest := strings.Repeat("q", impl.MaxText-3)
	bytes, _ := impl.PutText(greatest)
	if got, next, code := impl.TakeText(bytes, 0); got != greatest || next != impl.MaxText || code != impl.OK {
		t.Error("MaxText bytes", len(got), next, code)
	}
	if got, next, code := impl.TakeText(zeros(impl.MaxText), impl.MaxText-1); got != "" || next != impl.MaxText || code != impl.OK {
		t.Error("an empty text as the last of MaxText bytes", got, next, code)
	}
	for _, at := range []int{0, -1, impl.MaxText, impl.MaxText + 1, impl.MaxText + 2, math.MaxInt} {
		if got, next, code := impl.TakeText(zeros(impl.MaxText+1), at); got != "" || next != 0 || code != impl.ErrLong {
			t.Error("one byte more", at, got, next, code)
		}
	}
	if got, next, code := impl.TakeText("\x80\x00"+zeros(impl.MaxText), 0); got != "" || next != 0 || code != impl.ErrLong {
		t.Error("one byte more, no number ahead", got, next, code)
	}
}

// Whatever is read as a text has just the bytes that PutText tells of it.
func TestP2NoOtherBytesAreTexts(t *testing.T) {
	alphabet := []byte{0, 1, 2, 3, 127, 128, 129, 255}
	bytes := make([]byte, 5)
	for all := range 1 << (3 * len(bytes)) {
		for i := range bytes {
			bytes[i] = alphabet[all>>(3*i)%8]
		}
		for at := range bytes {
			text, next, code := impl.TakeText(string(bytes), at)
			if code != impl.OK {
				continue
			}
			if put, _ := impl.PutText(text); put != string(bytes[at:next]) {
				t.Fatalf("TakeText(%x, %d) = %x, %d, but PutText tells %x", bytes, at, text, next, put)
			}
		}
	}
}

func textsOfAllKinds() []string {
	var all []byte
	for b := range 256 {
		all = append(all, byte(b))
	}
	list := []string{"", "\x00", "\xff", "a", "abc", "CO", "ä€", "\x80\x80\x80", string(all)}
	for _, length := range []int{126, 127, 128, 129, 16382, 16383, 16384, 16385, impl.MaxText - 16, impl.MaxText - 3, impl.MaxText} {
		text := make([]byte, length)
		for i := range text {
			text[i] = byte(i * i / 7)
		}
		list = append(list, string(text))
	}
	return list
}
