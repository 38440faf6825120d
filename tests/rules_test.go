package tests

import (
	"fmt"
	"math"
	"strings"
	"sync"
	"testing"
	"unsafe"

	"loop.example/g00701/impl"
)

// call is one call of the program: what it is given as texts, what it answers as one text, and its answer's own texts.
type call struct {
	name    string
	given   string
	answers func() (string, []string)
}

func callsWithText(text string) []call {
	var list []call
	add := func(name string, answers func() (string, []string)) {
		list = append(list, call{name, text, answers})
	}
	texts := func(name string, f func(string) (string, int)) {
		add(name, func() (string, []string) {
			got, code := f(text)
			return fmt.Sprintf("%q %d", got, code), []string{got}
		})
	}
	texts("PutText", impl.PutText)
	texts("FrameText", impl.FrameText)
	texts("ReadFrame", impl.ReadFrame)
	texts("BytesOf", impl.BytesOf)
	add("HexOf", func() (string, []string) { got := impl.HexOf(text); return got, []string{got} })
	add("SumOf", func() (string, []string) { return fmt.Sprint(impl.SumOf(text)), nil })
	add("NameOK", func() (string, []string) { return fmt.Sprint(impl.NameOK(text)), nil })
	add("CodeOf", func() (string, []string) { return fmt.Sprint(impl.CodeOf(text)), nil })
	for _, at := range []int{math.MinInt, -1, 0, 1, 2, len(text) - 1, len(text), len(text) + 1, math.MaxInt} {
		add(fmt.Sprint("TakeNumber at ", at), func() (string, []string) {
			return fmt.Sprint(impl.TakeNumber(text, at)), nil
		})
		add(fmt.Sprint("TakeText at ", at), func() (string, []string) {
			got, next, code := impl.TakeText(text, at)
			return fmt.Sprintf("%q %d %d", got, next, code), []string{got}
		})
	}
	return list
}

func callsWithNumber(n int) []call {
	return []call{
		{fmt.Sprint("PutNumber ", n), "", func() (string, []string) {
			got, code := impl.PutNumber(n)
			return fmt.Sprintf("%q %d", got, code), []string{got}
		}},
		{fmt.Sprint("CodeWord ", n), "", func() (string, []string) { return impl.CodeWord(n), nil }},
	}
}

func callsOfAllKinds() []call {
	var list []call
	texts := []string{
		"", "a", "ok", "same", "CO", "\x00", "\x80", "\x80\x00", "\x03abc", "\x03ab", "0aff", "0AFF", "0af", "_name1",
		"CO\x00\x82\x79", frameByTheRule("some text"), frameByTheRule(zeros(300)), strings.Repeat("0f", 200),
		zeros(impl.MaxText), strings.Repeat("\xff", impl.MaxText+1), strings.Repeat("ok", impl.MaxText),
	}
	for _, text := range texts {
		list = append(list, callsWithText(text)...)
	}
	for _, n := range []int{math.MinInt, -1, 0, 1, 21, 22, 127, 128, 16383, 16384, 999999, 1000000, 1 << 32, math.MaxInt} {
		list = append(list, callsWithNumber(n)...)
	}
	return list
}

func TestP1AnswersDoNotHangOnWhatWasCalledAhead(t *testing.T) {
	list := callsOfAllKinds()
	first := make([]string, len(list))
	for i, c := range list {
		first[i], _ = c.answers()
	}
	for i := len(list) - 1; i >= 0; i-- {
		if again, _ := list[i].answers(); again != first[i] {
			t.Errorf("%s of %.20q: %.40s, then %.40s", list[i].name, list[i].given, first[i], again)
		}
	}
	var workers sync.WaitGroup
	aside := make([]string, len(list))
	for i, c := range list {
		workers.Go(func() { aside[i], _ = c.answers() })
	}
	workers.Wait()
	for i, c := range list {
		if aside[i] != first[i] {
			t.Errorf("%s of %.20q: %.40s, beside others %.40s", c.name, c.given, first[i], aside[i])
		}
	}
}

func TestP1NoArgumentIsChangedOrShared(t *testing.T) {
	for _, c := range callsOfAllKinds() {
		before := strings.Clone(c.given)
		_, answer := c.answers()
		if c.given != before {
			t.Errorf("%s changed its argument", c.name)
		}
		for _, text := range answer {
			if len(text) > 0 && overlap(text, c.given) {
				t.Errorf("%s of %.20q: the answer shares its argument's memory", c.name, c.given)
			}
		}
	}
}

func TestP1NothingIsWrittenBehindAnArgument(t *testing.T) {
	const behind = "behind"
	for _, text := range []string{"", "a", "\x03abc", "0aff", "ok", frameByTheRule("some text"), zeros(300)} {
		room := []byte(text + behind)
		piece := unsafe.String(&room[0], len(text))
		for _, c := range callsWithText(piece) {
			c.answers()
			if string(room) != text+behind {
				t.Fatalf("%s of %.20q wrote into its argument or behind it", c.name, text)
			}
		}
	}
}

func TestP1AlikeArgumentsHaveAlikeAnswers(t *testing.T) {
	for _, text := range []string{"", "\x03abc", "0aff", "order", "CO\x00\x82\x79"} {
		twin := callsWithText(("x" + text + "y")[1 : 1+len(text)])
		for i, c := range callsWithText(text) {
			one, _ := c.answers()
			if other, _ := twin[i].answers(); one != other {
				t.Errorf("%s of %q: %s and %s", c.name, text, one, other)
			}
		}
	}
}

func overlap(a, b string) bool {
	if len(a) == 0 || len(b) == 0 {
		return false
	}
	startA, startB := uintptr(unsafe.Pointer(unsafe.StringData(a))), uintptr(unsafe.Pointer(unsafe.StringData(b)))
	return startA < startB+uintptr(len(b)) && startB < startA+uintptr(len(a))
}
