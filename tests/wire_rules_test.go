package tests

import (
	"math"
	"reflect"
	"slices"
	"testing"

	"loop.example/g00701/impl"
)

// bytesToRead are frames of requests, documents and replies, right ones and others, and what is no frame.
func bytesToRead() []string {
	rows := []string{"", "\x00", "\x00\x00", "\x00\x00\x00\x00\x00", "\x01\x02\x29", "\x01\x02\xbf\x84\x3d", "\x01\x02\x01\x01\x01\x00\x00\xbf\x84\x3d", "\x80\x00", "\x80\x80\x80", "\xff\xff\xff\xff", zeros(4), zeros(65529), zeros(65530)}
	for _, q := range slices.Concat(busyRequests(), rightRequests()[:30]) {
		rows = append(rows, rowBytes(requestRow(q)))
	}
	for _, d := range rightDocs() {
		rows = append(rows, rowBytes(docRow(d)), rowBytes(replyRow(impl.Reply{Code: 5, N: 9, Doc: d})))
	}
	throw := &dice{283}
	var list []string
	for i, row := range rows {
		list = append(list, frameByTheRule(row), row)
		if i%4 == 0 {
			for _, text := range turnedBytes(throw, row)[:1] {
				list = append(list, frameByTheRule(text))
			}
		}
	}
	for _, w := range wrongFrames("\x01\x00\x00\x00") {
		list = append(list, w.text)
	}
	return list
}

// wireAsks are calls of chapter 11 with what is right and with what is not.
func wireAsks() []ask {
	var list []ask
	add := func(name string, f any, args ...any) { list = append(list, ask{name, f, args}) }
	for _, q := range slices.Concat(rightRequests(), wrongRequests(), toldRequests()[:400]) {
		add("RequestText", impl.RequestText, q)
	}
	for _, d := range slices.Concat(rightDocs(), wrongDocs(), []impl.Doc{greatDoc()}) {
		add("DocText", impl.DocText, d)
	}
	for _, r := range slices.Concat(rightReplies(), wrongReplies()) {
		add("ReplyText", impl.ReplyText, r)
	}
	hosts := []impl.Host{demoHost(), busyHost(), fullHost(), rootHost()}
	wrong := wrongHosts()
	for i, bytes := range bytesToRead() {
		add("ReadRequest", impl.ReadRequest, bytes)
		add("ReadDoc", impl.ReadDoc, bytes)
		add("ReadReply", impl.ReadReply, bytes)
		add("ServeText", impl.ServeText, hosts[i%len(hosts)], bytes)
		add("ServeText", impl.ServeText, wrong[i*37%len(wrong)], bytes)
	}
	for _, h := range rightHosts() {
		add("ServeText", impl.ServeText, h, "junk!")
		add("ServeText", impl.ServeText, h, framedRow(requestRow(opening())))
	}
	for _, q := range slices.Concat(busyRequests(), rightRequests()) {
		add("ServeText", impl.ServeText, busyHost(), framedRow(requestRow(q)))
	}
	return list
}

func TestP1RulesOfBytes(t *testing.T) {
	for _, a := range wireAsks() {
		askRules(t, a)
	}
}

func TestP1BytesDoNotHangOnWhatWasCalledAhead(t *testing.T) {
	askOrders(t, wireAsks())
}

// TestP1AServedHostWrittenIntoChangesNoOther writes into each list of a host that is answered, also as it is.
func TestP1AServedHostWrittenIntoChangesNoOther(t *testing.T) {
	texts := []string{"", "junk!", framedRow([]any{12, 1, 0, 0})}
	for _, q := range busyRequests() {
		texts = append(texts, framedRow(requestRow(q)))
	}
	for _, h := range []impl.Host{busyHost(), fullHost(), rootHost()} {
		for _, bytes := range texts {
			given := cloneHost(h)
			then, _, code := impl.ServeText(given, bytes)
			want := told(reflect.ValueOf(then))
			scribble(reflect.ValueOf(then))
			if again, _, _ := impl.ServeText(given, bytes); !alike(given, h) || told(reflect.ValueOf(again)) != want || code != impl.OK {
				t.Fatalf("ServeText(%s, %x): the host shares memory", short(h), bytes)
			}
		}
	}
}

// TestP1AReadDocumentWrittenIntoChangesNoOther writes into each list of a document that was read, and behind it.
func TestP1AReadDocumentWrittenIntoChangesNoOther(t *testing.T) {
	for _, d := range rightDocs() {
		one, _ := impl.ReadDoc(framedRow(docRow(d)))
		reply, _ := impl.ReadReply(framedRow(replyRow(impl.Reply{Doc: d})))
		for _, got := range []impl.Doc{one, reply.Doc} {
			for i := range got.Nodes {
				scribble(reflect.ValueOf(got.Nodes[i].Kids))
				if !alike(got.Nodes[i+1:], d.Nodes[i+1:]) {
					t.Fatalf("the Kids of node %d of %v share memory with later ones", got.Nodes[i].Id, d)
				}
			}
		}
	}
}

// TestP1OrderOfCodesOfBytes has several faults at once.
func TestP1OrderOfCodesOfBytes(t *testing.T) {
	wrongSum := func(frame string) string {
		return frame[:len(frame)-1] + string([]byte{frame[len(frame)-1] + 1})
	}
	junk := frameByTheRule("\x0c\x80\x00\x00")
	for i, v := range []struct {
		bytes                string
		request, doc, answer int
	}{
		// The frame ahead of all that stands in it: too long, letters, length, what is left, sum.
		{"XX" + zeros(65535), 2, 2, 2}, {junk + zeros(65537-len(junk)), 2, 2, 2}, {"XX" + wrongSum(junk)[2:], 3, 3, 3}, {"XO\x80\x80\x80", 3, 3, 3}, {"CO\x80\x00" + wrongSum(junk), 3, 3, 3}, {"CO\x80\x80\x80" + junk, 4, 4, 4}, {wrongSum(junk) + "x", 8, 8, 8}, {wrongSum(junk), 9, 9, 9}, {wrongSum(frameByTheRule("")), 9, 9, 9},
		{junk, 3, 3, 3}, {frameByTheRule(""), 8, 8, 8},
		// From the left to the right, the first fault that is met.
		{frameByTheRule("\x0c\x80\x00\x80\x80\x80"), 3, 3, 3}, {frameByTheRule("\x0c\x80\x80\x80\x80\x00"), 4, 4, 4}, {frameByTheRule("\x80\x80\x80"), 4, 4, 4}, {frameByTheRule("\x80\x80"), 8, 8, 8}, {frameByTheRule("\xff\xff\x7f\x80\x00"), 4, 4, 4},
		{frameByTheRule("\x16\x00\x29"), 8, 6, 8}, {frameByTheRule("\x16\x00\x29\x80\x00"), 3, 6, 3}, {frameByTheRule("\x16\x00\x00\x00\x29"), 8, 8, 6}, {frameByTheRule("\x16\x00\x00\x00\x29\x80\x00"), 8, 8, 6},
		// What is left ahead of what is not right.
		{frameByTheRule("\x0c\x00\x00\x00"), 10, 8, 8}, {frameByTheRule("\x0c\x00\x00\x00\x00"), 8, 8, 10}, {frameByTheRule("\x0c\x00\x00\x00\x00\x00"), 8, 8, 8}, {frameByTheRule("\x00\x00\x00"), 8, 10, 8}, {frameByTheRule("\x16\x00"), 8, 8, 10}, {frameByTheRule("\x16\x00\x00\x00\x00"), 8, 8, 10}, {frameByTheRule("\x16\x00\x01\x00\x00\x00"), 8, 8, 8},
		{frameByTheRule("\x07\x00\x00\x00\x00\x00\x00\x00\x00"), 10, 8, 8}, {frameByTheRule("\x07\x00\x00\x00\x00\x00\x00\x00\x00\x00"), 8, 8, 8}, {frameByTheRule("\x07\x00\x00\x00\x00\x00\x00\x00\x02a"), 8, 8, 8},
	} {
		if request, doc, answer := askRequestBytes(t, v.bytes), askDocBytes(t, v.bytes), askReplyBytes(t, v.bytes); request != v.request || doc != v.doc || answer != v.answer {
			t.Errorf("%d: %.40x: codes %d, %d, %d; want %d, %d, %d", i, v.bytes, request, doc, answer, v.request, v.doc, v.answer)
		}
	}
}

// TestP1VeryLongLists in what is to be told are not right, and the call ends at once.
func TestP1VeryLongLists(t *testing.T) {
	const many = 1000000
	for i, d := range []impl.Doc{
		{Nodes: make([]impl.Node, many)}, bushDoc(many / 10), turned(demoDoc(), func(d *impl.Doc) { d.Nodes[1].Text = zeros(many) }), turned(demoDoc(), func(d *impl.Doc) { d.Nodes[8].Kids = make([]int, many) }), turned(demoDoc(), func(d *impl.Doc) { d.Nodes = append(d.Nodes, make([]impl.Node, many)...) }),
	} {
		text, code := impl.DocText(d)
		reply, other := impl.ReplyText(impl.Reply{Doc: d})
		if text != "" || reply != "" || code != impl.ErrBad || other != impl.ErrBad {
			t.Errorf("%d: DocText: %d bytes, %d; ReplyText: %d bytes, %d", i, len(text), code, len(reply), other)
		}
	}
	for _, kind := range []int{impl.RqOpen, impl.RqEdit, math.MinInt, math.MaxInt} {
		if text, code := impl.RequestText(impl.Request{Kind: kind, Edit: impl.Edit{Kind: impl.EdText, Node: 1, Text: zeros(many)}}); text != "" || code != impl.ErrBad {
			t.Errorf("RequestText of kind %d with a very long Text: %d bytes, %d", kind, len(text), code)
		}
	}
}
