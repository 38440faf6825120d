package tests

import (
	"slices"
	"testing"

	"loop.example/g00701/impl"
)

func TestP17BytesOfReplies(t *testing.T) {
	one := "\x01\x02\x01\x01\x01\x00\x00\x00"
	for _, v := range []struct {
		r     impl.Reply
		bytes string
	}{
		{impl.Reply{}, "\x00\x00"}, {impl.Reply{N: 1}, "\x00\x01"}, {impl.Reply{Code: 1}, "\x01\x00"}, {impl.Reply{Code: 21, N: 127}, "\x15\x7f"}, {impl.Reply{N: 128}, "\x00\x80\x01"}, {impl.Reply{Code: impl.ErrContent, N: 999999}, "\x0c\xbf\x84\x3d"},
		{impl.Reply{Doc: chainDoc(1)}, "\x00\x00" + one}, {impl.Reply{Code: 21, N: 999999, Doc: chainDoc(1)}, "\x15\xbf\x84\x3d" + one}, {impl.Reply{N: 9, Doc: demoDoc()}, "\x00\x09" + rowBytes(docRow(demoDoc()))}, {impl.Reply{Code: 5, Doc: greatDoc()}, "\x05\x00" + rowBytes(docRow(greatDoc()))},
	} {
		frame := frameByTheRule(v.bytes)
		if bytes, code := impl.ReplyText(v.r); bytes != frame || code != impl.OK {
			t.Errorf("ReplyText(%v) = %x, %d; want %x", v.r, bytes, code, frame)
		}
		if r, code := impl.ReadReply(frame); !alike(r, v.r) || code != impl.OK {
			t.Errorf("ReadReply(%x) = %v, %d; want %v", frame, r, code, v.r)
		}
	}
}

func TestP17RepliesAreReadBack(t *testing.T) {
	list := rightReplies()
	throw := &dice{269}
	for range 1000 {
		list = append(list, impl.Reply{Code: throw.below(22), N: throw.below(1000000), Doc: thrownDoc(throw, 40)})
	}
	for _, r := range list {
		bytes, code := impl.ReplyText(r)
		if want, wanted := replyTextByTheRule(r); bytes != want || code != impl.OK || wanted != impl.OK {
			t.Fatalf("ReplyText(%v) = %x, %d; want %x, %d", r, bytes, code, want, wanted)
		}
		if back, code := impl.ReadReply(bytes); !alike(back, r) || code != impl.OK {
			t.Fatalf("ReadReply(%x) = %v, %d; want %v", bytes, back, code, r)
		}
	}
}

// TestP17WrongRepliesAreNotTold, each by each of its fields; where their bytes can be written down, they are read as none.
func TestP17WrongRepliesAreNotTold(t *testing.T) {
	codes := map[int]int{}
	for _, r := range wrongReplies() {
		if bytes, code := impl.ReplyText(r); bytes != "" || code != impl.ErrBad {
			t.Fatalf("ReplyText(%s) = %x, %d", short(r), bytes, code)
		}
		for _, row := range [][]any{replyRow(r), append([]any{r.Code, r.N}, docRow(r.Doc)...)} {
			if !tellable(row) {
				continue
			}
			zero := alike(r.Doc, impl.Doc{})
			code := askReplyBytes(t, framedRow(row))
			if right := len(row) == 2 && !zero && replyByTheRule(impl.Reply{Code: r.Code, N: r.N}); (code == impl.OK) != right {
				t.Fatalf("ReadReply of the bytes of %s: code %d", short(r), code)
			}
			codes[code]++
		}
	}
	askCounts(t, codes, 5, impl.ErrKind, impl.ErrMany)
}

// TestP17ADocumentThatIsNotTold: one of no nodes is read whole, but no reply is told so; what has a right document alone is.
func TestP17ADocumentThatIsNotTold(t *testing.T) {
	for code := range 22 {
		ahead := rowBytes([]any{code, code * 1000})
		for i, v := range []struct {
			text string
			code int
		}{
			{"", impl.OK}, {"\x00\x00\x00", impl.ErrKind}, {"\x01\x00\x00", impl.ErrKind}, {"\x00\x02\x00", impl.ErrKind}, {"\x01\x02\x00", impl.ErrKind}, {"\x00", impl.ErrSize}, {"\x00\x00", impl.ErrSize}, {"\x01", impl.ErrSize}, {"\x01\x02", impl.ErrSize}, {"\x80", impl.ErrSize}, {"\x80\x00", impl.ErrForm},
			{"\x00\x00\x00\x00", impl.ErrSize}, {"\x01\x02\x00\x00", impl.ErrSize}, {"\x00\x00\x00\x00\x00\x00", impl.ErrSize}, {"\x00\x00\x00\x80\x80\x80", impl.ErrSize}, {"\x00\x00\x29", impl.ErrMany}, {"\x00\x00\x80\x00", impl.ErrForm}, {"\x00\x00\x01\x00\x00\x00\x00\x00", impl.ErrKind},
			{"\x01\x02\x01\x01\x01\x00\x00\x00", impl.OK}, {"\x01\x02\x01\x01\x01\x00\x00\x00\x00", impl.ErrSize}, {"\x01\x02\x01\x01\x09\x00\x00\x00", impl.ErrKind}, {"\x01\x02\x01\x01\x09\x00\x00\x00\x00", impl.ErrSize}, {"\x01\x02\x01\x01\x01\x00\x00\x00\x80\x00", impl.ErrSize},
		} {
			if got := askReplyBytes(t, frameByTheRule(ahead+v.text)); got != v.code {
				t.Errorf("%d: ReadReply of %x in a frame: code %d, want %d", i, ahead+v.text, got, v.code)
			}
		}
	}
}

// TestP17EachNumberOfAReply reads each Code and N at its bounds and beyond, with and without a document.
func TestP17EachNumberOfAReply(t *testing.T) {
	for _, doc := range []string{"", rowBytes(docRow(chainDoc(1))), rowBytes(docRow(demoDoc()))} {
		for _, code := range []int{0, 1, 20, 21, 22, 23, 127, 128, 277, 999999} {
			for _, n := range []int{0, 1, 127, 128, 16383, 16384, 999999} {
				want := impl.OK
				if code > 21 {
					want = impl.ErrKind
				}
				if got := askReplyBytes(t, frameByTheRule(rowBytes([]any{code, n})+doc)); got != want {
					t.Errorf("ReadReply of Code %d, N %d and %x: code %d, want %d", code, n, doc, got, want)
				}
			}
		}
		for i, v := range []struct {
			row  []any
			code int
		}{
			{[]any{22, raw("\xc0\x84\x3d")}, impl.ErrRange}, {[]any{raw("\xc0\x84\x3d"), 0}, impl.ErrRange}, {[]any{raw("\x80\x00"), raw("\xc0\x84\x3d")}, impl.ErrForm}, {[]any{22, raw("\x80\x00")}, impl.ErrForm}, {[]any{raw("\x96\x00"), 0}, impl.ErrForm}, {[]any{raw("\x80\x80\x80"), raw("\x80\x00")}, impl.ErrRange},
		} {
			if got := askReplyBytes(t, frameByTheRule(rowBytes(v.row)+doc)); got != v.code {
				t.Errorf("%d: ReadReply: code %d, want %d", i, got, v.code)
			}
		}
	}
}

// What ends behind N is a reply without a document.
func TestP17WrongBytesOfReplies(t *testing.T) {
	for _, r := range []impl.Reply{{}, {Code: 12, N: 999999}, {Doc: chainDoc(2)}, {Code: 21, N: 16384, Doc: demoDoc()}} {
		askWrongBytes(t, replyRow(r), 2, askReplyBytes)
	}
}

// TestP17TurnedReplies: replies' bytes with one byte changed, less or more, within the frame and of the frame itself.
func TestP17TurnedReplies(t *testing.T) {
	throw := &dice{271}
	codes := map[int]int{}
	list := rightReplies()
	for _, r := range slices.Concat(list, list[len(list)-40:], list[len(list)-40:]) {
		askTurned(t, throw, replyRow(r), codes, askReplyBytes)
	}
	askCounts(t, codes, 20, impl.OK, impl.ErrSize, impl.ErrForm, impl.ErrRange, impl.ErrMany, impl.ErrKind)
}
