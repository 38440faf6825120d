package tests

import (
	"slices"
	"strings"
	"testing"

	"loop.example/g00701/impl"
)

// toldRequests are right requests of each kind: with the least and the greatest numbers, with each Text, and thrown ones.
func toldRequests() []impl.Request {
	list := rightRequests()
	for _, text := range bytesOfAllKinds() {
		list = append(list, editing(1, impl.Edit{Kind: impl.EdText, Node: 9, Text: text}))
	}
	throw := &dice{241}
	numbers := []int{1, 2, 127, 128, 255, 256, 998, 999, 16383, 16384, 16385, 65536, 999998, 999999}
	for range 2000 {
		session, node := numbers[throw.below(8)], numbers[throw.below(len(numbers))]
		e := thrownEdit(throw, bushDoc(40))
		if e.Node = node; e.Kind == impl.EdMove {
			e.A = numbers[throw.below(len(numbers))]
		}
		list = append(list, []impl.Request{
			editing(session, e), locking(session, node, 1+throw.below(5)), unlocking(session, node), checkingOut(session, node), reading(session, node),
			closing(session), renewing(session), checkingIn(session), abandoning(session), ticking(1 + throw.below(500)),
		}[throw.below(10)])
	}
	return list
}

func TestP17BytesOfEachKindOfRequest(t *testing.T) {
	for _, v := range []struct {
		q     impl.Request
		bytes string
	}{
		{opening(), "\x01\x00\x00\x00"}, {closing(2), "\x02\x02\x00\x00"}, {closing(999), "\x02\xe7\x07\x00\x00"}, {renewing(127), "\x03\x7f\x00\x00"}, {renewing(128), "\x03\x80\x01\x00\x00"}, {locking(3, 16383, 4), "\x04\x03\xff\x7f\x04"}, {locking(300, 16384, 1), "\x04\xac\x02\x80\x80\x01\x01"}, {unlocking(1, 999999), "\x05\x01\xbf\x84\x3d\x00"},
		{checkingOut(5, 6), "\x06\x05\x06\x00"}, {checkingIn(7), "\x08\x07\x00\x00"}, {abandoning(8), "\x09\x08\x00\x00"}, {reading(9, 10), "\x0a\x09\x0a\x00"}, {ticking(1), "\x0b\x00\x00\x01"}, {ticking(127), "\x0b\x00\x00\x7f"}, {ticking(128), "\x0b\x00\x00\x80\x01"}, {ticking(500), "\x0b\x00\x00\xf4\x03"},
		{editing(4, edit(impl.EdInsert, 5, 8, 12)), "\x07\x04\x00\x00\x01\x05\x08\x0c\x00"}, {editing(4, edit(impl.EdDelete, 200)), "\x07\x04\x00\x00\x02\xc8\x01\x00\x00\x00"}, {editing(4, impl.Edit{Kind: impl.EdText, Node: 5, Text: "a\x00\xff"}), "\x07\x04\x00\x00\x03\x05\x00\x00\x03a\x00\xff"}, {editing(4, impl.Edit{Kind: impl.EdText, Node: 5}), "\x07\x04\x00\x00\x03\x05\x00\x00\x00"},
		{editing(4, impl.Edit{Kind: impl.EdText, Node: 5, Text: "twenty bytes of text"}), "\x07\x04\x00\x00\x03\x05\x00\x00\x14twenty bytes of text"}, {editing(4, edit(impl.EdAttr, 5, 99)), "\x07\x04\x00\x00\x04\x05\x63\x00\x00"}, {editing(4, edit(impl.EdMove, 5, 999999, 1)), "\x07\x04\x00\x00\x05\x05\xbf\x84\x3d\x01\x00"}, {editing(4, edit(impl.EdWrap, 5, 7)), "\x07\x04\x00\x00\x06\x05\x07\x00\x00"},
		{editing(4, edit(impl.EdLift, 5)), "\x07\x04\x00\x00\x07\x05\x00\x00\x00"}, {editing(999, edit(impl.EdSplit, 5, 20)), "\x07\xe7\x07\x00\x00\x08\x05\x14\x00\x00"}, {editing(4, edit(impl.EdJoin, 5)), "\x07\x04\x00\x00\x09\x05\x00\x00\x00"},
	} {
		frame := frameByTheRule(v.bytes)
		if bytes, code := impl.RequestText(v.q); bytes != frame || code != impl.OK {
			t.Errorf("RequestText(%v) = %x, %d; want %x", v.q, bytes, code, frame)
		}
		if q, code := impl.ReadRequest(frame); q != v.q || code != impl.OK {
			t.Errorf("ReadRequest(%x) = %v, %d; want %v", frame, q, code, v.q)
		}
	}
}

func TestP17RequestsAreReadBack(t *testing.T) {
	seen := map[string]impl.Request{}
	for _, q := range toldRequests() {
		bytes, code := impl.RequestText(q)
		if want, wanted := requestTextByTheRule(q); bytes != want || code != impl.OK || wanted != impl.OK {
			t.Fatalf("RequestText(%v) = %x, %d; want %x, %d", q, bytes, code, want, wanted)
		}
		if back, code := impl.ReadRequest(bytes); back != q || code != impl.OK {
			t.Fatalf("ReadRequest(%x) = %v, %d; want %v", bytes, back, code, q)
		}
		if other, was := seen[bytes]; was && other != q {
			t.Fatalf("%v and %v have the same bytes", q, other)
		}
		seen[bytes] = q
	}
}

// TestP17WrongRequestsAreNotTold, each by each of its numbers; where their bytes can be written down, they are read as none.
func TestP17WrongRequestsAreNotTold(t *testing.T) {
	for _, q := range wrongRequests() {
		if bytes, code := impl.RequestText(q); bytes != "" || code != impl.ErrBad {
			t.Fatalf("RequestText(%s) = %x, %d", short(q), bytes, code)
		}
		row := requestRow(q)
		if !tellable(row) || len(q.Edit.Text) > 20000 {
			continue
		}
		want := impl.ErrKind
		if (q.Kind == impl.RqEdit) != (len(row) > 4) {
			t.Fatal("the row of a request", row)
		}
		if q.Kind != impl.RqEdit && requestByTheRule(request(q.Kind, q.Session, q.Node, q.A)) {
			want = impl.OK // Only its Edit was wrong, which is not told.
		}
		if code := askRequestBytes(t, framedRow(row)); code != want {
			t.Fatalf("ReadRequest of the bytes of %s: code %d, want %d", short(q), code, want)
		}
	}
}

// TestP17EachNumberOfARequest reads each number at its bounds and beyond, in the place of each number of each kind.
func TestP17EachNumberOfARequest(t *testing.T) {
	var read tally
	numbers := []int{0, 1, 2, 5, 6, 7, 8, 9, 10, 11, 12, 13, 20, 21, 99, 100, 127, 128, 500, 501, 999, 1000, 16384, 999999}
	for _, q := range slices.Concat(rightRequests(), wrongRequests()) {
		row := requestRow(q)
		if !tellable(row) || len(q.Edit.Text) > 200 {
			continue
		}
		for i := range row {
			if _, isNumber := row[i].(int); !isNumber {
				continue
			}
			for _, n := range numbers {
				other := slices.Clone(row)
				other[i] = n
				read.count(askRequestBytes(t, framedRow(other)) == impl.OK)
			}
		}
	}
	read.askBoth(t)
}

// TestP17EditsInOtherRequests: only RqEdit has an edit; behind another kind its bytes are left, and RqEdit without them ends.
func TestP17EditsInOtherRequests(t *testing.T) {
	edited := "\x02\x09\x00\x00\x00"
	for kind := range 14 {
		want, without := impl.ErrSize, impl.ErrKind
		switch kind {
		case impl.RqEdit:
			want, without = impl.OK, impl.ErrSize
		case impl.RqClose, impl.RqRenew, impl.RqCheckIn, impl.RqAbandon:
			without = impl.OK
		}
		row := rowBytes([]any{kind, 1, 0, 0})
		if code := askRequestBytes(t, frameByTheRule(row+edited)); code != want {
			t.Errorf("kind %d with an edit: code %d, want %d", kind, code, want)
		}
		if code := askRequestBytes(t, frameByTheRule(row)); code != without {
			t.Errorf("kind %d without an edit: code %d, want %d", kind, code, without)
		}
	}
}

// TestP17LongTextsOfEdits are read whole, and are no request then.
func TestP17LongTextsOfEdits(t *testing.T) {
	for _, length := range []int{0, 1, 19, 20, 21, 127, 128, 16383, 16384, 65510, 65518} {
		want := impl.OK
		if length > 20 {
			want = impl.ErrKind
		}
		bytes := framedRow([]any{7, 1, 0, 0, 3, 9, 0, 0, strings.Repeat("t", length)})
		if code := askRequestBytes(t, bytes); code != want {
			t.Errorf("a Text of %d bytes, %d in all: code %d, want %d", length, len(bytes), code, want)
		}
	}
}

func TestP17WrongBytesOfRequests(t *testing.T) {
	for _, q := range []impl.Request{opening(), locking(300, 999999, 5), ticking(500), editing(999, impl.Edit{Kind: impl.EdText, Node: 16384, Text: "some text"}), editing(1, impl.Edit{Kind: impl.EdText, Node: 1}), editing(128, edit(impl.EdMove, 5, 999999, 12))} {
		askWrongBytes(t, requestRow(q), 0, askRequestBytes)
	}
}

// TestP17TurnedRequests: each request's bytes with one byte changed, less or more, within the frame and of the frame itself.
func TestP17TurnedRequests(t *testing.T) {
	throw := &dice{251}
	codes := map[int]int{}
	list := rightRequests()
	for _, q := range append(list, toldRequests()[len(list)+500:][:300]...) {
		askTurned(t, throw, requestRow(q), codes, askRequestBytes)
	}
	askCounts(t, codes, 200, impl.OK, impl.ErrSize, impl.ErrForm, impl.ErrRange, impl.ErrKind)
}

// TestP17AFewBytes reads all texts of a few bytes in a frame.
func TestP17AFewBytes(t *testing.T) {
	alphabet := []byte{0, 1, 2, 4, 7, 11, 12, 127, 128, 129}
	codes := map[int]int{}
	for length := range 6 {
		all := 1
		for range length {
			all *= len(alphabet)
		}
		for n := range all {
			var text []byte
			for range length {
				text = append(text, alphabet[n%len(alphabet)])
				n /= len(alphabet)
			}
			codes[askRequestBytes(t, frameByTheRule(string(text)))]++
		}
	}
	askCounts(t, codes, 10, impl.OK)
	askCounts(t, codes, 100, impl.ErrKind, impl.ErrSize, impl.ErrForm, impl.ErrRange)
}
