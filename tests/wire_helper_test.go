package tests

import (
	"math"
	"slices"
	"testing"

	"loop.example/g00701/impl"
)

// The bytes of chapter 11 by its words, slowly: a thing is told as a row of numbers and texts.

// raw stands in a row as it is: bytes that PutNumber and PutText would not tell.
type raw string

func numberBytes(n int) string {
	var bytes []byte
	for ; n > 127; n >>= 7 {
		bytes = append(bytes, byte(n&127|128))
	}
	return string(append(bytes, byte(n)))
}

func rowBytes(row []any) string {
	bytes := ""
	for _, piece := range row {
		switch piece := piece.(type) {
		case int:
			bytes += numberBytes(piece)
		case string:
			bytes += numberBytes(len(piece)) + piece
		case raw:
			bytes += string(piece)
		}
	}
	return bytes
}

func framedRow(row []any) string {
	return frameByTheRule(rowBytes(row))
}

func requestRow(q impl.Request) []any {
	row := []any{q.Kind, q.Session, q.Node, q.A}
	if q.Kind == impl.RqEdit {
		row = append(row, q.Edit.Kind, q.Edit.Node, q.Edit.A, q.Edit.B, q.Edit.Text)
	}
	return row
}

func docRow(d impl.Doc) []any {
	row := []any{d.Root, d.Next, len(d.Nodes)}
	for _, n := range d.Nodes {
		row = append(row, n.Id, n.Kind, n.Attr, n.Text, len(n.Kids))
		for _, kid := range n.Kids {
			row = append(row, kid)
		}
	}
	return row
}

func replyRow(r impl.Reply) []any {
	row := []any{r.Code, r.N}
	if len(r.Doc.Nodes) > 0 {
		row = append(row, docRow(r.Doc)...)
	}
	return row
}

// tellable is whether each number of a row has bytes that could be read.
func tellable(row []any) bool {
	return !slices.ContainsFunc(row, func(piece any) bool {
		n, is := piece.(int)
		return is && (n < 0 || n > 999999)
	})
}

func requestTextByTheRule(q impl.Request) (string, int) {
	if !requestByTheRule(q) {
		return "", impl.ErrBad
	}
	return framedRow(requestRow(q)), impl.OK
}

func docTextByTheRule(d impl.Doc) (string, int) {
	if !rightByTheRule(d) {
		return "", impl.ErrBad
	}
	return framedRow(docRow(d)), impl.OK
}

func replyByTheRule(r impl.Reply) bool {
	zero := r.Doc.Root == 0 && r.Doc.Next == 0 && len(r.Doc.Nodes) == 0
	return r.Code >= 0 && r.Code <= 21 && r.N >= 0 && r.N <= 999999 && (zero || rightByTheRule(r.Doc))
}

func replyTextByTheRule(r impl.Reply) (string, int) {
	if !replyByTheRule(r) {
		return "", impl.ErrBad
	}
	return framedRow(replyRow(r)), impl.OK
}

// slowReader takes what it reads off its bytes; a code is a panic.
type slowReader struct{ rest string }

type codeFound int

func (s *slowReader) piece(length int) string {
	if length > len(s.rest) {
		panic(codeFound(impl.ErrSize))
	}
	piece := s.rest[:length]
	s.rest = s.rest[length:]
	return piece
}

func (s *slowReader) number() int {
	n := 0
	for place := range 3 {
		b := int(s.piece(1)[0])
		n += b % 128 * []int{1, 128, 128 * 128}[place]
		switch {
		case b > 127:
			continue
		case b == 0 && place > 0:
			panic(codeFound(impl.ErrForm))
		case n > 999999:
			panic(codeFound(impl.ErrRange))
		}
		return n
	}
	panic(codeFound(impl.ErrRange))
}

func (s *slowReader) text() string {
	return s.piece(s.number())
}

func (s *slowReader) countUpTo(most int) int {
	n := s.number()
	if n > most {
		panic(codeFound(impl.ErrMany))
	}
	return n
}

func (s *slowReader) request() impl.Request {
	q := impl.Request{Kind: s.number(), Session: s.number(), Node: s.number(), A: s.number()}
	if q.Kind == 7 {
		q.Edit = impl.Edit{Kind: s.number(), Node: s.number(), A: s.number(), B: s.number(), Text: s.text()}
	}
	return q
}

func (s *slowReader) doc() impl.Doc {
	d := impl.Doc{Root: s.number(), Next: s.number()}
	for range s.countUpTo(40) {
		n := impl.Node{Id: s.number(), Kind: s.number(), Attr: s.number(), Text: s.text()}
		for range s.countUpTo(12) {
			n.Kids = append(n.Kids, s.number())
		}
		d.Nodes = append(d.Nodes, n)
	}
	return d
}

// unframed reads a frame by the words of chapter 2.
func unframed(t string) string {
	switch {
	case len(t) > 65536:
		panic(codeFound(impl.ErrLong))
	case len(t) < 5 || t[:2] != "CO":
		panic(codeFound(impl.ErrForm))
	}
	s := slowReader{t[2:]}
	text := s.text()
	ahead := t[:len(t)-len(s.rest)]
	sum := sumByTheRule(ahead)
	switch {
	case len(s.rest) != 2:
		panic(codeFound(impl.ErrSize))
	case int(s.rest[0])+256*int(s.rest[1]) != sum:
		panic(codeFound(impl.ErrSum))
	}
	return text
}

// readSlowly reads what stands alone in a frame; is says at last whether it is right.
func readSlowly[E any](t string, read func(*slowReader) E, is func(E) bool) (found E, code int) {
	defer func() {
		if fault := recover(); fault != nil {
			var none E
			found, code = none, int(fault.(codeFound))
		}
	}()
	s := slowReader{unframed(t)}
	e := read(&s)
	if s.rest != "" {
		panic(codeFound(impl.ErrSize))
	}
	if !is(e) {
		panic(codeFound(impl.ErrKind))
	}
	return e, impl.OK
}

func readRequestByTheRule(t string) (impl.Request, int) {
	return readSlowly(t, (*slowReader).request, requestByTheRule)
}

func readDocByTheRule(t string) (impl.Doc, int) {
	return readSlowly(t, (*slowReader).doc, rightByTheRule)
}

func readReplyByTheRule(t string) (impl.Reply, int) {
	told := true
	read := func(s *slowReader) impl.Reply {
		r := impl.Reply{Code: s.number(), N: s.number()}
		if s.rest != "" {
			r.Doc = s.doc()
			told = len(r.Doc.Nodes) > 0
		}
		return r
	}
	return readSlowly(t, read, func(r impl.Reply) bool { return told && replyByTheRule(r) })
}

// serveByTheRule answers the empty text where the reply is none that can be told.
func serveByTheRule(h impl.Host, t string) (impl.Host, string, int) {
	switch {
	case len(t) > 65536:
		return impl.Host{}, "", impl.ErrLong
	case !hostByTheRule(h):
		return impl.Host{}, "", impl.ErrBad
	}
	reply := impl.Reply{}
	q, code := readRequestByTheRule(t)
	if code == impl.OK {
		h, reply, _ = askHostByTheRule(h, q)
	} else {
		reply.Code = code
	}
	text, _ := replyTextByTheRule(reply)
	return h, text, impl.OK
}

// wrongBytes is a row's bytes with one fault in them, and its code.
type wrongBytes struct {
	text string
	code int
}

// faultsIn puts each fault of a number or a text in the place of each piece of a row; what is wrong behind it does not count.
func faultsIn(row []any) []wrongBytes {
	var list []wrongBytes
	for i, piece := range row {
		ahead := rowBytes(row[:i])
		_, isText := piece.(string)
		for _, behind := range []string{rowBytes(row[i+1:]), "", "\x00", "\x80\x00", "\x80\x80\x80", "\xff\xff\xff\xff"} {
			for fault, code := range map[string]int{
				"\x80\x00": impl.ErrForm, "\x81\x00": impl.ErrForm, "\xff\x80\x00": impl.ErrForm, "\x80\x80\x80": impl.ErrRange, "\xff\xff\xff": impl.ErrRange, "\xc0\x84\x3d": impl.ErrRange, "\xff\xff\x7f": impl.ErrRange,
			} {
				list = append(list, wrongBytes{ahead + fault + behind, code})
			}
			if isText {
				list = append(list, wrongBytes{ahead + "\xbf\x84\x3d" + behind, impl.ErrSize})
			}
		}
		// The end within a number, and ahead of it.
		for _, end := range []string{"", "\x80", "\xff", "\x80\x80", "\xff\xff"} {
			list = append(list, wrongBytes{ahead + end, impl.ErrSize})
		}
		for _, end := range []string{"\x01", "\x02a", "\x14" + zeros(19), "\x80\x01" + zeros(127)} {
			if isText {
				list = append(list, wrongBytes{ahead + end, impl.ErrSize})
			}
		}
	}
	return list
}

// lessAndMore are bytes of which some are left behind, or some are not there: the code is ErrSize of each.
func lessAndMore(text string) []string {
	var list []string
	for length := range text {
		list = append(list, text[:length])
	}
	for b := range 256 {
		list = append(list, text+string([]byte{byte(b)}))
	}
	return append(list, text+text, text+zeros(3), text+zeros(1000), text+zeros(60000), text+"\x80\x00", text+"\x80\x80\x80")
}

// wrongFrames are none, of whatever text, with each of ReadFrame's codes.
func wrongFrames(text string) []wrongBytes {
	frame := frameByTheRule(text)
	list := []wrongBytes{
		{"", impl.ErrForm}, {"C", impl.ErrForm}, {"CO", impl.ErrForm}, {"CO\x00\x82", impl.ErrForm}, {text, impl.ErrForm}, {"X" + frame, impl.ErrForm}, {"co" + frame[2:], impl.ErrForm}, {"OC" + frame[2:], impl.ErrForm}, {"CP" + frame[2:], impl.ErrForm}, {"BO" + frame[2:], impl.ErrForm}, {frame[2:], impl.ErrForm},
		{"CO\x80\x00" + frame[3:], impl.ErrForm}, {"CO\x80\x80\x80" + frame[3:], impl.ErrRange}, {"CO\xc0\x84\x3d" + frame[3:], impl.ErrRange}, {"CO\xbf\x84\x3d" + frame[3:], impl.ErrSize}, {"CO\x80\x80\x04" + text, impl.ErrSize},
		{frame + "\x00", impl.ErrSize}, {frame + frame, impl.ErrSize}, {frame + zeros(65536-len(frame)), impl.ErrSize}, {frame + zeros(65537-len(frame)), impl.ErrLong}, {frame + zeros(200000), impl.ErrLong}, {zeros(65537), impl.ErrLong}, {zeros(65536), impl.ErrForm}, {frameByTheRule(zeros(65530)), impl.ErrLong},
	}
	for length := range len(frame) {
		code := impl.ErrSize
		if length < 5 {
			code = impl.ErrForm
		}
		list = append(list, wrongBytes{frame[:length], code})
	}
	for i := len(frame) - 2 - len(text); i < len(frame); i++ {
		for _, step := range []byte{1, 2, 127, 128, 254, 255} {
			list = append(list, wrongBytes{frame[:i] + string([]byte{frame[i] + step}) + frame[i+1:], impl.ErrSum})
		}
	}
	return list
}

// turnedBytes are bytes with one of them changed, taken out or put in, at each place or, of many, at some.
func turnedBytes(throw *dice, text string) []string {
	var list []string
	for i := range len(text) + 1 {
		if len(text) > 40 && throw.below(len(text)) > 40 {
			continue
		}
		for range 4 {
			one := string([]byte{byte([]int{throw.below(256), throw.below(16), 0, 128 + throw.below(4)}[throw.below(4)])})
			list = append(list, text[:i]+one+text[i:])
			if i < len(text) {
				list = append(list, text[:i]+one+text[i+1:])
			}
		}
		if i < len(text) {
			list = append(list, text[:i]+text[i+1:])
		}
	}
	return list
}

func rightReplies() []impl.Reply {
	var list []impl.Reply
	for code := range 22 {
		for _, n := range []int{0, 1, 127, 128, 16383, 16384, 999998, 999999} {
			list = append(list, impl.Reply{Code: code, N: n})
		}
	}
	for i, d := range rightDocs() {
		list = append(list, impl.Reply{Doc: d}, impl.Reply{Code: i % 22, N: i * 50000 % 1000000, Doc: d})
	}
	return append(list, impl.Reply{Doc: impl.Doc{Nodes: []impl.Node{}}}, impl.Reply{Code: 21, N: 3, Doc: impl.Doc{Nodes: []impl.Node{}}})
}

// wrongReplies break each sentence of chapter 11 on a reply that can be told.
func wrongReplies() []impl.Reply {
	var list []impl.Reply
	for _, d := range []impl.Doc{{}, demoDoc()} {
		for _, n := range []int{math.MinInt, -1 << 32, -22, -1, 22, 23, 128, 999999, 1<<32 + 1, math.MaxInt} {
			list = append(list, impl.Reply{Code: n, Doc: d}, impl.Reply{Code: n, N: 5, Doc: d})
		}
		for _, n := range []int{math.MinInt, -1 << 32, -1, 1000000, 1000001, 1 << 21, 1<<32 + 1, math.MaxInt} {
			list = append(list, impl.Reply{N: n, Doc: d}, impl.Reply{Code: 12, N: n, Doc: d})
		}
	}
	for _, d := range append(wrongDocs(), impl.Doc{Root: 1}, impl.Doc{Next: 2}, impl.Doc{Root: -1}, impl.Doc{Next: -1, Nodes: []impl.Node{}}, impl.Doc{Nodes: make([]impl.Node, 1)}) {
		if d.Root != 0 || d.Next != 0 || len(d.Nodes) > 0 {
			list = append(list, impl.Reply{Doc: d}, impl.Reply{Code: 10, N: 4, Doc: d})
		}
	}
	return list
}

// askReading holds the reading of some bytes against the words of chapter 11, and answers the code; what is read is told in
// the same bytes again.
func askReading[E any](t *testing.T, bytes string, read, readSlowly func(string) (E, int), tell func(E) (string, int)) int {
	t.Helper()
	want, wanted := readSlowly(bytes)
	e, code := read(bytes)
	if !alike(e, want) || code != wanted {
		t.Fatalf("%.300x is read as %s, %d; want %s, %d", bytes, short(e), code, short(want), wanted)
	}
	if code != impl.OK {
		return code
	}
	if again, code := tell(e); again != bytes || code != impl.OK {
		t.Fatalf("%s is told as %x, %d; it was read of %x", short(e), again, code, bytes)
	}
	return code
}

func askRequestBytes(t *testing.T, bytes string) int {
	t.Helper()
	return askReading(t, bytes, impl.ReadRequest, readRequestByTheRule, impl.RequestText)
}

func askDocBytes(t *testing.T, bytes string) int {
	t.Helper()
	return askReading(t, bytes, impl.ReadDoc, readDocByTheRule, impl.DocText)
}

func askReplyBytes(t *testing.T, bytes string) int {
	t.Helper()
	return askReading(t, bytes, impl.ReadReply, readReplyByTheRule, impl.ReplyText)
}

// askWrongBytes reads a row's bytes with faults in them, less and more of them, and frames of them that are none. Where a
// row may end early, its first pieces are right by themselves, and what is behind them is not of another length.
func askWrongBytes(t *testing.T, row []any, early int, ask func(*testing.T, string) int) {
	t.Helper()
	text, bare := rowBytes(row), rowBytes(row[:early])
	list := wrongFrames(text)
	add := func(text string, code int) {
		if early > 0 && text == bare {
			code = impl.OK
		}
		list = append(list, wrongBytes{frameByTheRule(text), code})
	}
	for _, w := range faultsIn(row) {
		add(w.text, w.code)
	}
	for _, other := range lessAndMore(text) {
		if len(row) != early || len(other) <= len(text) {
			add(other, impl.ErrSize)
		}
	}
	for _, w := range list {
		if code := ask(t, w.text); code != w.code {
			t.Fatalf("reading %.300x: code %d, want %d", w.text, code, w.code)
		}
	}
}

// askTurned reads a row's bytes with one byte changed, less or more, within the frame and of the frame itself, which is none
// then; it counts the codes.
func askTurned(t *testing.T, throw *dice, row []any, codes map[int]int, ask func(*testing.T, string) int) {
	t.Helper()
	for _, text := range turnedBytes(throw, rowBytes(row)) {
		codes[ask(t, frameByTheRule(text))]++
	}
	frame := framedRow(row)
	for _, text := range turnedBytes(throw, frame) {
		if code := ask(t, text); code == impl.OK && text != frame {
			t.Fatalf("%x is read, which is another frame than %x", text, frame)
		}
	}
}

// askCounts asks that each of these codes came up so often.
func askCounts(t *testing.T, codes map[int]int, least int, list ...int) {
	t.Helper()
	for _, code := range list {
		if codes[code] < least {
			t.Errorf("too few of code %d: %v", code, codes)
		}
	}
}
