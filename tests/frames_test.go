package tests

import (
	"strings"
	"testing"

	"loop.example/g00701/impl"
)

func TestP2Sums(t *testing.T) {
	for text, sum := range map[string]int{
		"": 1, "\x00": 31, "a": 128, "ab": 4066, "\xff": 286, "abc": 4066*31 + 99 - 65521,
		"CO\x00": 0x7982, strings.Repeat("\x00", 16): 64069,
	} {
		if got := impl.SumOf(text); got != sum {
			t.Errorf("SumOf(%x) = %d, want %d", text, got, sum)
		}
	}
	for _, text := range textsOfAllKinds() {
		if got := impl.SumOf(text); got != sumByTheRule(text) {
			t.Errorf("SumOf of %d bytes = %d, want %d", len(text), got, sumByTheRule(text))
		}
	}
}

func TestP2SumsOfLongTexts(t *testing.T) {
	text := strings.Repeat("\xff", impl.MaxText)
	if got := impl.SumOf(text); got != sumByTheRule(text) || got == 0 {
		t.Error("MaxText bytes", got, sumByTheRule(text))
	}
	for _, length := range []int{impl.MaxText + 1, impl.MaxText + 2, 2 * impl.MaxText} {
		if got := impl.SumOf(strings.Repeat("\xff", length)); got != 0 {
			t.Error(length, got)
		}
	}
}

func TestP2FramesAreReadBack(t *testing.T) {
	for _, text := range textsOfAllKinds() {
		if len(text) > impl.MaxText-16 {
			continue
		}
		frame, code := impl.FrameText(text)
		if frame != frameByTheRule(text) || code != impl.OK {
			t.Errorf("FrameText of %d bytes: %.20x, %d", len(text), frame, code)
		}
		if got, code := impl.ReadFrame(frame); got != text || code != impl.OK {
			t.Errorf("ReadFrame of %d bytes: %d bytes, %d", len(text), len(got), code)
		}
	}
	if got, code := impl.FrameText(""); got != "CO\x00\x82\x79" || code != impl.OK {
		t.Errorf("FrameText of nothing: %x, %d", got, code)
	}
}

func TestP2FramesOfLongTexts(t *testing.T) {
	for _, v := range []struct{ length, code int }{
		{impl.MaxText - 17, impl.OK}, {impl.MaxText - 16, impl.OK}, {impl.MaxText - 15, impl.ErrSize},
		{impl.MaxText - 1, impl.ErrSize}, {impl.MaxText, impl.ErrSize}, {impl.MaxText + 1, impl.ErrLong}, {2 * impl.MaxText, impl.ErrLong},
	} {
		got, code := impl.FrameText(zeros(v.length))
		if code != v.code || code == impl.OK != (len(got) == v.length+7) || code != impl.OK && got != "" {
			t.Errorf("FrameText of %d bytes: %d bytes, %d", v.length, len(got), code)
		}
	}
}

func TestP2ReadingLongFrames(t *testing.T) {
	// No code of ReadFrame bounds the text: what fits into MaxText bytes as a frame is read.
	text := strings.Repeat("z", impl.MaxText-7)
	frame := frameByTheRule(text)
	if got, code := impl.ReadFrame(frame); len(frame) != impl.MaxText || got != text || code != impl.OK {
		t.Error("MaxText bytes", len(frame), len(got), code)
	}
	for _, long := range []string{frameByTheRule(text + "z"), frame + "x", "XX" + frame, zeros(impl.MaxText + 1)} {
		if got, code := impl.ReadFrame(long); got != "" || code != impl.ErrLong {
			t.Errorf("%d bytes: %d bytes, %d", len(long), len(got), code)
		}
	}
	if got, code := impl.ReadFrame(zeros(impl.MaxText)); got != "" || code != impl.ErrForm {
		t.Error("MaxText bytes that are no frame", len(got), code)
	}
}

func TestP2WrongFrames(t *testing.T) {
	empty, frame := frameByTheRule(""), frameByTheRule("abc")
	for _, v := range []struct {
		bytes string
		code  int
	}{
		{"", impl.ErrForm}, {"C", impl.ErrForm}, {"CO", impl.ErrForm}, {"CO\x00\x82", impl.ErrForm}, {"CO\x80\x00", impl.ErrForm}, {"CX\x00\x82", impl.ErrForm},
		{"XO" + empty[2:], impl.ErrForm}, {"CX" + empty[2:], impl.ErrForm}, {"OC" + empty[2:], impl.ErrForm}, {"co" + empty[2:], impl.ErrForm},
		{"XX\x80\x80\x80", impl.ErrForm}, {"\x00\x00\x00\x00\x00", impl.ErrForm}, {"xCO\x00\x82\x79", impl.ErrForm},
		{"CO\x80\x00ab", impl.ErrForm}, {"CO\x83\x00" + frame[3:], impl.ErrForm}, {"CO\x80\x80\x00ab", impl.ErrForm},
		{"CO\x80\x80\x80", impl.ErrRange}, {"CO\xff\xff\x7f", impl.ErrRange}, {"CO\xc0\x84\x3dab", impl.ErrRange},
		{"CO\x09abcd", impl.ErrSize}, {"CO\xbf\x84\x3dab", impl.ErrSize}, {"CO\x03ab", impl.ErrSize}, {"CO\x03abc", impl.ErrSize},
		{"CO\x00\x82\x79x", impl.ErrSize}, {frame[:7], impl.ErrSize}, {frame + "\x00", impl.ErrSize}, {frame + frame, impl.ErrSize},
		{"CO\x02" + frame[3:], impl.ErrSize}, {"CO\x04" + frame[3:], impl.ErrSize},
		{"CO\x00\x79\x82", impl.ErrSum}, {"CO\x00\x00\x00", impl.ErrSum}, {"CO\x00\x83\x79", impl.ErrSum}, {"CO\x00\x82\x78", impl.ErrSum},
		{frame[:3] + "abd" + frame[6:], impl.ErrSum}, {"CO\x03acb" + frame[6:], impl.ErrSum},
	} {
		if got, code := impl.ReadFrame(v.bytes); got != "" || code != v.code {
			t.Errorf("ReadFrame(%x) = %q, %d, want code %d", v.bytes, got, code, v.code)
		}
	}
}

func TestP2AFrameWithAnotherByteIsNone(t *testing.T) {
	for _, text := range []string{"a", "abc", "\x00\x00", "\xff\xff\xff", strings.Repeat("m", 130)} {
		frame := frameByTheRule(text)
		for i := range len(frame) {
			for b := range 256 {
				other := []byte(frame)
				other[i] = byte(b)
				if string(other) == frame {
					continue
				}
				got, code := impl.ReadFrame(string(other))
				if got != "" || code == impl.OK {
					t.Fatalf("byte %d of the frame of %.10q as %x: %q, %d", i, text, b, got, code)
				}
				if start := len(frame) - 2 - len(text); i >= start && code != impl.ErrSum {
					t.Fatalf("byte %d of the frame of %.10q as %x: code %d, want that of the sum", i, text, b, code)
				}
			}
		}
	}
}

func TestP2AGreatFrameWithAnotherByteIsNone(t *testing.T) {
	frame := frameByTheRule(zeros(impl.MaxText - 16))
	for _, i := range []int{5, 6, 1000, 40000, len(frame) - 4, len(frame) - 3, len(frame) - 2, len(frame) - 1} {
		for _, step := range []byte{1, 2, 128, 255} {
			other := []byte(frame)
			other[i] += step
			if got, code := impl.ReadFrame(string(other)); got != "" || code != impl.ErrSum {
				t.Errorf("byte %d: %d bytes, %d", i, len(got), code)
			}
		}
	}
}

func TestP2AFrameWithFewerOrMoreBytesIsNone(t *testing.T) {
	for _, text := range []string{"", "a", "abc", "CO\x00\x82\x79", strings.Repeat("m", 130)} {
		frame := frameByTheRule(text)
		for i := range len(frame) {
			want := impl.ErrSize
			if i < 5 {
				want = impl.ErrForm
			}
			if got, code := impl.ReadFrame(frame[:i]); got != "" || code != want {
				t.Errorf("the first %d bytes of the frame of %.10q: %q, %d", i, text, got, code)
			}
			if got, code := impl.ReadFrame(frame[:i] + frame[i+1:]); got != "" || code == impl.OK {
				t.Errorf("the frame of %.10q without byte %d: %q, %d", text, i, got, code)
			}
		}
		for b := range 256 {
			if got, code := impl.ReadFrame(frame + string([]byte{byte(b)})); got != "" || code != impl.ErrSize {
				t.Errorf("the frame of %.10q and byte %x: %q, %d", text, b, got, code)
			}
		}
	}
}

// Whatever is read as a frame is just what FrameText tells of its text.
func TestP2NoOtherBytesAreFrames(t *testing.T) {
	found := 0
	for lower := range 256 {
		for upper := range 256 {
			for _, head := range []string{"CO\x00", "CO\x01a", "CO\x02a\x00", "CO\x81\x00a"} {
				bytes := head + string([]byte{byte(lower), byte(upper)})
				text, code := impl.ReadFrame(bytes)
				if code != impl.OK {
					continue
				}
				found++
				if frame, _ := impl.FrameText(text); frame != bytes {
					t.Errorf("ReadFrame(%x) = %q, whose frame is %x", bytes, text, frame)
				}
			}
		}
	}
	if found != 3 {
		t.Error("frames found:", found)
	}
}

func sumByTheRule(text string) int {
	sum := uint64(1)
	for _, b := range []byte(text) {
		sum = (sum*31 + uint64(b)) % 65521
	}
	return int(sum)
}

// frameByTheRule writes a frame by hand, so that FrameText is not asked of itself.
func frameByTheRule(text string) string {
	bytes := []byte("CO")
	n := len(text)
	for ; n > 127; n >>= 7 {
		bytes = append(bytes, byte(n&127|128))
	}
	bytes = append(bytes, byte(n))
	bytes = append(bytes, text...)
	sum := sumByTheRule(string(bytes))
	return string(append(bytes, byte(sum&255), byte(sum>>8)))
}
