package tests

import (
	"slices"
	"strings"
	"testing"

	"loop.example/g00701/impl"
)

// greatDoc has as much of everything as there may be: numbers of three bytes, 40 nodes, 12 Kids, 20 bytes of Text.
func greatDoc() impl.Doc {
	d := bushDoc(40)
	d.Root, d.Next = 999959, 999999
	for i := range d.Nodes {
		n := &d.Nodes[i]
		n.Id += 999958
		n.Text = strings.Repeat(string([]byte{byte(i * 7)}), 20)
		for j := range n.Kids {
			n.Kids[j] += 999958
		}
	}
	d.Nodes[0].Attr = 99
	return d
}

func TestP17BytesOfDocuments(t *testing.T) {
	demo := "\x01\x0a\x09" + "\x01\x01\x00\x00\x03\x02\x03\x05" + "\x02\x03\x00\x05intro\x00" + "\x03\x02\x00\x00\x01\x04" + "\x04\x03\x00\x03one\x00" + "\x05\x02\x00\x00\x02\x06\x07" + "\x06\x03\x00\x03two\x00" + "\x07\x04\x00\x00\x01\x08" + "\x08\x05\x00\x00\x01\x09" + "\x09\x03\x07\x05point\x00"
	for _, v := range []struct {
		d     impl.Doc
		bytes string
	}{
		{chainDoc(1), "\x01\x02\x01\x01\x01\x00\x00\x00"}, {chainDoc(2), "\x01\x03\x02\x01\x01\x00\x00\x01\x02\x02\x01\x00\x00\x00"}, {demoDoc(), demo},
		{impl.Doc{Root: 128, Next: 999999, Nodes: []impl.Node{{Id: 128, Kind: 8, Attr: 99, Text: "\x80\x00"}}}, "\x80\x01\xbf\x84\x3d\x01\x80\x01\x08\x63\x02\x80\x00\x00"},
		{impl.Doc{Root: 999998, Next: 999999, Nodes: []impl.Node{{Id: 16383, Kind: 2, Attr: 1, Text: "twenty bytes of text"}, {Id: 999998, Kind: 1, Kids: []int{16383}}}}, "\xbe\x84\x3d\xbf\x84\x3d\x02\xff\x7f\x02\x01\x14twenty bytes of text\x00\xbe\x84\x3d\x01\x00\x00\x01\xff\x7f"},
	} {
		frame := frameByTheRule(v.bytes)
		if bytes, code := impl.DocText(v.d); bytes != frame || code != impl.OK {
			t.Errorf("DocText(%v) = %x, %d; want %x", v.d, bytes, code, frame)
		}
		if d, code := impl.ReadDoc(frame); !alike(d, v.d) || code != impl.OK {
			t.Errorf("ReadDoc(%x) = %v, %d; want %v", frame, d, code, v.d)
		}
	}
}

func TestP17DocumentsAreReadBack(t *testing.T) {
	list := append(rightDocs(), greatDoc())
	throw := &dice{257}
	for range 1000 {
		list = append(list, thrownDoc(throw, 40))
	}
	for _, text := range bytesOfAllKinds() {
		list = append(list, impl.Doc{Root: 5, Next: 300, Nodes: []impl.Node{{Id: 5, Kind: 1, Text: text}}})
	}
	for _, d := range list {
		bytes, code := impl.DocText(d)
		if want, wanted := docTextByTheRule(d); bytes != want || code != impl.OK || wanted != impl.OK {
			t.Fatalf("DocText(%v) = %x, %d; want %x, %d", d, bytes, code, want, wanted)
		}
		back, code := impl.ReadDoc(bytes)
		if !alike(back, d) || code != impl.OK || !impl.SameDoc(back, d) {
			t.Fatalf("ReadDoc(%x) = %v, %d; want %v", bytes, back, code, d)
		}
	}
}

// TestP17WrongDocumentsAreNotTold, each by each of its fields; where their bytes can be written down, they are read as none.
func TestP17WrongDocumentsAreNotTold(t *testing.T) {
	codes := map[int]int{}
	for _, d := range wrongDocs() {
		if bytes, code := impl.DocText(d); bytes != "" || code != impl.ErrBad {
			t.Fatalf("DocText(%s) = %x, %d", short(d), bytes, code)
		}
		if row := docRow(d); tellable(row) {
			bytes := framedRow(row)
			code := askDocBytes(t, bytes)
			manyKids := slices.ContainsFunc(d.Nodes, func(n impl.Node) bool { return len(n.Kids) > 12 })
			want := impl.ErrKind
			if len(d.Nodes) > 40 || manyKids {
				want = impl.ErrMany
			}
			if len(bytes) > 65536 {
				want = impl.ErrLong
			}
			if code != want {
				t.Fatalf("ReadDoc of the bytes of %s: code %d, want %d", short(d), code, want)
			}
			codes[code]++
		}
	}
	askCounts(t, codes, 4, impl.ErrKind, impl.ErrMany)
}

// TestP17EachNumberOfADocument reads each number at its bounds and beyond, in the place of each number of a document.
func TestP17EachNumberOfADocument(t *testing.T) {
	codes := map[int]int{}
	for _, d := range []impl.Doc{chainDoc(1), chainDoc(6), demoDoc(), tangledDoc(), fanDoc(12)} {
		row := docRow(d)
		for i := range row {
			if _, isNumber := row[i].(int); !isNumber {
				continue
			}
			for _, n := range []int{0, 1, 2, 3, 4, 8, 9, 10, 12, 13, 39, 40, 41, 99, 100, 127, 128, 16384, 999998, 999999} {
				other := slices.Clone(row)
				other[i] = n
				codes[askDocBytes(t, framedRow(other))]++
			}
		}
	}
	askCounts(t, codes, 50, impl.OK, impl.ErrKind, impl.ErrMany, impl.ErrSize)
}

// TestP17TooManyNodesAndKids: ErrMany where the number stands, ahead of all that is behind it, and behind all that is ahead.
func TestP17TooManyNodesAndKids(t *testing.T) {
	kids := func(n int) string { return strings.Repeat("\x02", n) }
	nodes := func(n int) string { return strings.Repeat("\x01\x01\x00\x00\x00", n) }
	first := "\x01\x02\x02\x01\x01\x00\x00"
	for i, v := range []struct {
		text string
		code int
	}{
		{"\x01\x02\x28" + nodes(40), impl.ErrKind}, {"\x01\x02\x28" + nodes(39), impl.ErrSize}, {"\x01\x02\x28" + nodes(41), impl.ErrSize},
		{"\x01\x02\x29" + nodes(41), impl.ErrMany}, {"\x01\x02\x29", impl.ErrMany}, {"\x01\x02\x29" + nodes(50), impl.ErrMany}, {"\x01\x02\x29\x80\x00", impl.ErrMany}, {"\x01\x02\x29\x80\x80\x80", impl.ErrMany}, {"\x01\x02\x80\x01", impl.ErrMany}, {"\x01\x02\xbf\x84\x3d", impl.ErrMany}, {"\x01\x02\xbf\x84\x3d\x80", impl.ErrMany},
		{"\x00\x00\x29", impl.ErrMany}, {"\x80\x00\x02\x29", impl.ErrForm}, {"\x01\x80\x80\x80\x29", impl.ErrRange}, {"\x01\x02\xc0\x84\x3d", impl.ErrRange}, {"\x01\x02\xa9\x00", impl.ErrForm}, {"\x01\x02\xa9", impl.ErrSize},
		{first + "\x0c" + kids(12), impl.ErrSize}, {first + "\x0c" + kids(12) + "\x02\x01\x00\x00\x00", impl.ErrKind}, {first + "\x0d" + kids(13) + "\x02\x01\x00\x00\x00", impl.ErrMany}, {first + "\x0d", impl.ErrMany}, {first + "\x0d\x80\x00", impl.ErrMany}, {first + "\x0d\x80\x80\x80", impl.ErrMany}, {first + "\x80\x01", impl.ErrMany}, {first + "\xbf\x84\x3d" + kids(100), impl.ErrMany},
		{first + "\xc0\x84\x3d", impl.ErrRange}, {first + "\x8d\x00", impl.ErrForm}, {first + "\x8d", impl.ErrSize}, {first + "\x01\x02\x02\x01\x00\x00\x0d", impl.ErrMany}, {first + "\x01\x80\x00\x02\x01\x00\x00\x0d", impl.ErrForm}, {first + "\x0d\x02\x01\x00\x05", impl.ErrMany},
		{"\x00\x00\x01\x00\x00\xbf\x84\x3d\x00\x0d", impl.ErrMany}, {"\x01\x02\x01\x01\x01\x00\x05abc\x0d", impl.ErrSize}, {"\x01\x02\x01\x01\x01\x00\x15" + zeros(21) + "\x0d", impl.ErrMany}, {"\x01\x02\x01\x01\x01\x00\x15" + zeros(21) + "\x00", impl.ErrKind},
	} {
		if code := askDocBytes(t, frameByTheRule(v.text)); code != v.code {
			t.Errorf("%d: ReadDoc of %.100x in a frame: code %d, want %d", i, v.text, code, v.code)
		}
		if code := askReplyBytes(t, frameByTheRule("\x00\x00"+v.text)); code != v.code {
			t.Errorf("%d: ReadReply of 0000%.100x in a frame: code %d, want %d", i, v.text, code, v.code)
		}
	}
}

// TestP17LongTextsOfNodes are read whole, and are no right document then.
func TestP17LongTextsOfNodes(t *testing.T) {
	for _, length := range []int{0, 1, 19, 20, 21, 127, 128, 16383, 16384, 65510, 65518} {
		want := impl.OK
		if length > 20 {
			want = impl.ErrKind
		}
		d := impl.Doc{Root: 1, Next: 2, Nodes: []impl.Node{{Id: 1, Kind: 1, Text: strings.Repeat("t", length)}}}
		bytes := framedRow(docRow(d))
		if code := askDocBytes(t, bytes); code != want {
			t.Errorf("a Text of %d bytes, %d in all: code %d, want %d", length, len(bytes), code, want)
		}
		if text, code := impl.DocText(d); (code == impl.OK) != (want == impl.OK) || code == impl.OK && text != bytes {
			t.Errorf("DocText with a Text of %d bytes: code %d", length, code)
		}
	}
}

func TestP17WrongBytesOfDocuments(t *testing.T) {
	for _, d := range []impl.Doc{chainDoc(1), chainDoc(2), demoDoc(), tangledDoc(), greatDoc()} {
		askWrongBytes(t, docRow(d), 0, askDocBytes)
	}
}

// TestP17TurnedDocuments: each document's bytes with one byte changed, less or more, within the frame and of the frame itself.
func TestP17TurnedDocuments(t *testing.T) {
	throw := &dice{263}
	codes := map[int]int{}
	for _, d := range append(rightDocs(), greatDoc()) {
		for range 5 {
			askTurned(t, throw, docRow(d), codes, askDocBytes)
		}
	}
	askCounts(t, codes, 50, impl.OK, impl.ErrSize, impl.ErrForm, impl.ErrRange, impl.ErrMany, impl.ErrKind)
}
