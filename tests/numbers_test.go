package tests

import (
	"math"
	"testing"

	"loop.example/g00701/impl"
)

func TestP2NumbersAtTheirEdges(t *testing.T) {
	for _, v := range []struct {
		n     int
		bytes string
	}{
		{0, "\x00"}, {1, "\x01"}, {127, "\x7f"}, {128, "\x80\x01"}, {129, "\x81\x01"}, {255, "\xff\x01"},
		{16383, "\xff\x7f"}, {16384, "\x80\x80\x01"}, {16385, "\x81\x80\x01"},
		{65536, "\x80\x80\x04"}, {999998, "\xbe\x84\x3d"}, {999999, "\xbf\x84\x3d"},
	} {
		if got, code := impl.PutNumber(v.n); got != v.bytes || code != impl.OK {
			t.Errorf("PutNumber(%d) = %x, %d", v.n, got, code)
		}
		if got, code := impl.TakeNumber(v.bytes, 0); got != v.n || code != impl.OK {
			t.Errorf("TakeNumber(%x) = %d, %d", v.bytes, got, code)
		}
	}
}

func TestP2NumbersOutOfTheirBounds(t *testing.T) {
	for _, n := range []int{-1, -128, 1000000, 1000001, 1 << 21, 1 << 32, math.MaxInt, math.MinInt} {
		if got, code := impl.PutNumber(n); got != "" || code != impl.ErrRange {
			t.Errorf("PutNumber(%d) = %x, %d", n, got, code)
		}
	}
}

func TestP2EveryNumberIsReadBack(t *testing.T) {
	for n := range impl.MaxNumber + 1 {
		bytes, code := impl.PutNumber(n)
		if code != impl.OK {
			t.Fatalf("PutNumber(%d): code %d", n, code)
		}
		if got, code := impl.TakeNumber(bytes, 0); got != n || code != impl.OK {
			t.Fatalf("TakeNumber(%x) = %d, %d, want %d", bytes, got, code, n)
		}
	}
}

func TestP2NumbersStandAmongOtherBytes(t *testing.T) {
	for _, n := range []int{0, 5, 127, 128, 16383, 16384, 999999} {
		bytes, _ := impl.PutNumber(n)
		for _, ahead := range []string{"x", "\x80", "\x80\x80\x80", "\x00\xff"} {
			for _, behind := range []string{"", "\x00", "\x80", "\xff\xff"} {
				if got, code := impl.TakeNumber(ahead+bytes+behind, len(ahead)); got != n || code != impl.OK {
					t.Errorf("TakeNumber(%x, %d) = %d, %d, want %d", ahead+bytes+behind, len(ahead), got, code, n)
				}
			}
		}
	}
}

func TestP2WrongBytesOfNumbers(t *testing.T) {
	for _, v := range []struct {
		bytes string
		code  int
	}{
		{"", impl.ErrSize}, {"\x80", impl.ErrSize}, {"\xff", impl.ErrSize}, {"\x80\x80", impl.ErrSize}, {"\xff\xff", impl.ErrSize},
		{"\x80\x00", impl.ErrForm}, {"\xff\x00", impl.ErrForm}, {"\x80\x80\x00", impl.ErrForm}, {"\xff\xff\x00", impl.ErrForm},
		{"\x80\x80\x80", impl.ErrRange}, {"\xff\xff\xff", impl.ErrRange}, {"\x80\x80\x80\x00", impl.ErrRange}, {"\x80\x80\x80\x01", impl.ErrRange},
		{"\xc0\x84\x3d", impl.ErrRange}, {"\xbf\x85\x3d", impl.ErrRange}, {"\x80\x80\x3e", impl.ErrRange}, {"\xff\xff\x7f", impl.ErrRange},
	} {
		if got, code := impl.TakeNumber(v.bytes, 0); got != 0 || code != v.code {
			t.Errorf("TakeNumber(%x) = %d, %d, want code %d", v.bytes, got, code, v.code)
		}
		if got, code := impl.TakeNumber("ab"+v.bytes, 2); got != 0 || code != v.code {
			t.Errorf("TakeNumber(ab%x, 2) = %d, %d, want code %d", v.bytes, got, code, v.code)
		}
	}
}

func TestP2PlacesOfNumbers(t *testing.T) {
	for _, v := range []struct {
		text     string
		at       int
		n, code  int
		whatItIs string
	}{
		{"\x05", 0, 5, impl.OK, "the first place"},
		{"\x05\x06", 1, 6, impl.OK, "the last place"},
		{"\x05\x06", 2, 0, impl.ErrSize, "the end"},
		{"\x05\x06", 3, 0, impl.ErrSize, "beyond the end"},
		{"\x05\x06", -1, 0, impl.ErrSize, "ahead of the text"},
		{"", 0, 0, impl.ErrSize, "the end of nothing"},
		{"", 1, 0, impl.ErrSize, "beyond nothing"},
		{"", -1, 0, impl.ErrSize, "ahead of nothing"},
		{"\x05", math.MaxInt, 0, impl.ErrSize, "the greatest place"},
		{"\x05", math.MaxInt - 1, 0, impl.ErrSize, "nearly the greatest place"},
		{"\x05", math.MinInt, 0, impl.ErrSize, "the least place"},
	} {
		if got, code := impl.TakeNumber(v.text, v.at); got != v.n || code != v.code {
			t.Errorf("%s: TakeNumber(%x, %d) = %d, %d", v.whatItIs, v.text, v.at, got, code)
		}
	}
}

func TestP2LongTextsOfNumbers(t *testing.T) {
	if got, code := impl.TakeNumber(zeros(impl.MaxText-1)+"\x09", impl.MaxText-1); got != 9 || code != impl.OK {
		t.Error("MaxText bytes", got, code)
	}
	for _, at := range []int{0, -1, impl.MaxText, impl.MaxText + 1, impl.MaxText + 2, math.MaxInt, math.MinInt} {
		if got, code := impl.TakeNumber(zeros(impl.MaxText+1), at); got != 0 || code != impl.ErrLong {
			t.Error("one byte more", at, got, code)
		}
	}
	if got, code := impl.TakeNumber(zeros(impl.MaxText)+"\x80", impl.MaxText); got != 0 || code != impl.ErrLong {
		t.Error("one byte more, no whole number", got, code)
	}
}

// Of all bytes there are, up to three and one behind them, just those that PutNumber tells are a number's.
func TestP2NoOtherBytesAreNumbers(t *testing.T) {
	known := map[string]int{}
	for n := range impl.MaxNumber + 1 {
		bytes, _ := impl.PutNumber(n)
		known[bytes] = n
	}
	if len(known) != impl.MaxNumber+1 {
		t.Fatal("two numbers have the same bytes")
	}
	buffer := make([]byte, 3)
	for length := 0; length <= 3; length++ {
		for all := range 1 << (8 * length) {
			for i := range length {
				buffer[i] = byte(all >> (8 * i))
			}
			text := string(buffer[:length])
			n, code := impl.TakeNumber(text, 0)
			wantN, want := numberByTheRule(text, known)
			if n != wantN || code != want {
				t.Fatalf("TakeNumber(%x) = %d, %d, want %d, %d", text, n, code, wantN, want)
			}
		}
	}
}

// numberByTheRule reads the bytes from what is known of PutNumber and from the order of faults in chapter 2.
func numberByTheRule(text string, known map[string]int) (int, int) {
	for i := 0; i < 3; i++ {
		switch {
		case i == len(text):
			return 0, impl.ErrSize
		case text[i] == 0 && i > 0:
			return 0, impl.ErrForm
		case text[i] < 128:
			if n, ok := known[text[:i+1]]; ok {
				return n, impl.OK
			}
			return 0, impl.ErrRange
		}
	}
	return 0, impl.ErrRange
}
