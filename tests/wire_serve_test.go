package tests

import (
	"slices"
	"testing"

	"loop.example/g00701/impl"
)

// askServe holds one call with a right host against the words of chapters 10 and 11, and answers the host then.
func askServe(t *testing.T, h impl.Host, bytes string) impl.Host {
	t.Helper()
	then, text, code := impl.ServeText(h, bytes)
	wantHost, wantText, want := serveByTheRule(h, bytes)
	if code != want || text != wantText || !alike(then, wantHost) {
		t.Fatalf("ServeText(%s, %.200x) = %s, %x, %d; want %s, %x, %d", short(h), bytes, short(then), text, code, short(wantHost), wantText, want)
	}
	if code == impl.OK && !impl.HostOK(then) {
		t.Fatalf("ServeText(%s, %.200x): the host is right no more: %s", short(h), bytes, short(then))
	}
	return then
}

// victimHost: 1 waits for what 2 has, and 2 has nothing to wait for yet.
func victimHost() impl.Host {
	return hostWith(2, table(holds(hold(1, 4, impl.LkX), hold(2, 2, impl.LkX)), hold(1, 2, impl.LkS)))
}

func TestP17ServingEachKindOfRequest(t *testing.T) {
	refused := turnedHost(rootHost(), func(h *impl.Host) {
		h.Sessions[0].Copy.Nodes[6].Kids, h.Sessions[0].Copy.Nodes = nil, h.Sessions[0].Copy.Nodes[:7]
	})
	idle := hostWith(1, table(holds(hold(1, 5, impl.LkX))))
	late := turnedHost(demoHost(), func(h *impl.Host) { h.Next = 1000 })
	deleted := edit(impl.EdDelete, 8)
	for i, v := range []struct {
		h     impl.Host
		q     impl.Request
		reply impl.Reply
	}{
		{demoHost(), opening(), impl.Reply{N: 1}}, {busyHost(), opening(), impl.Reply{N: 12}}, {fullHost(), opening(), impl.Reply{Code: impl.ErrFull}}, {late, opening(), impl.Reply{Code: impl.ErrFull}},
		{busyHost(), closing(4), impl.Reply{}}, {busyHost(), closing(5), impl.Reply{Code: impl.ErrLapsed}}, {demoHost(), closing(999), impl.Reply{Code: impl.ErrLapsed}},
		{busyHost(), renewing(9), impl.Reply{N: 150}}, {busyHost(), renewing(8), impl.Reply{Code: impl.ErrLapsed}},
		{busyHost(), locking(10, 3, impl.LkIS), impl.Reply{}}, {busyHost(), locking(10, 2, impl.LkS), impl.Reply{Code: impl.ErrWait}}, {busyHost(), locking(10, 77, 1), impl.Reply{Code: impl.ErrNone}}, {busyHost(), locking(6, 2, 1), impl.Reply{Code: impl.ErrHeld}}, {victimHost(), locking(2, 4, impl.LkX), impl.Reply{Code: impl.ErrVictim}}, {busyHost(), locking(2, 2, 5), impl.Reply{Code: impl.ErrLapsed}}, {turnedHost(fullHost(), func(h *impl.Host) { h.Table.Waits = nil }), locking(994, 6, impl.LkIS), impl.Reply{Code: impl.ErrFull}},
		{busyHost(), unlocking(1, 9), impl.Reply{}}, {busyHost(), unlocking(1, 5), impl.Reply{Code: impl.ErrWork}}, {busyHost(), unlocking(1, 77), impl.Reply{Code: impl.ErrNone}}, {busyHost(), unlocking(1, 7), impl.Reply{Code: impl.ErrHeld}}, {busyHost(), unlocking(11, 5), impl.Reply{Code: impl.ErrLapsed}},
		{idle, checkingOut(1, 7), impl.Reply{Doc: subByTheRule(demoDoc(), 7)}}, {busyHost(), checkingOut(1, 7), impl.Reply{Code: impl.ErrWork}}, {idle, checkingOut(1, 1), impl.Reply{Code: impl.ErrMode}}, {idle, checkingOut(1, 10), impl.Reply{Code: impl.ErrNone}}, {idle, checkingOut(2, 7), impl.Reply{Code: impl.ErrLapsed}},
		{busyHost(), editing(4, impl.Edit{Kind: impl.EdText, Node: 2, Text: "\x00\xff"}), impl.Reply{N: 1}}, {busyHost(), editing(1, deleted), impl.Reply{N: 2}}, {busyHost(), editing(1, edit(impl.EdDelete, 5)), impl.Reply{Code: impl.ErrNone}}, {busyHost(), editing(1, edit(impl.EdLift, 7)), impl.Reply{Code: impl.ErrRoot}}, {busyHost(), editing(10, deleted), impl.Reply{Code: impl.ErrWork}}, {busyHost(), editing(5, deleted), impl.Reply{Code: impl.ErrLapsed}},
		{busyHost(), checkingIn(4), impl.Reply{N: 9}}, {busyHost(), checkingIn(1), impl.Reply{N: 10}}, {refused, checkingIn(1), impl.Reply{Code: impl.ErrContent, N: 7}}, {busyHost(), checkingIn(10), impl.Reply{Code: impl.ErrWork}}, {busyHost(), checkingIn(3), impl.Reply{Code: impl.ErrLapsed}},
		{busyHost(), abandoning(1), impl.Reply{}}, {busyHost(), abandoning(10), impl.Reply{Code: impl.ErrWork}}, {busyHost(), abandoning(2), impl.Reply{Code: impl.ErrLapsed}},
		{busyHost(), reading(1, 5), impl.Reply{Doc: subByTheRule(demoDoc(), 5)}}, {rootHost(), reading(1, 1), impl.Reply{Doc: demoDoc()}}, {busyHost(), reading(6, 4), impl.Reply{Doc: subByTheRule(demoDoc(), 4)}}, {busyHost(), reading(4, 5), impl.Reply{Code: impl.ErrMode}}, {busyHost(), reading(4, 10), impl.Reply{Code: impl.ErrNone}}, {busyHost(), reading(2, 5), impl.Reply{Code: impl.ErrLapsed}},
		{busyHost(), ticking(1), impl.Reply{N: 1}}, {busyHost(), ticking(500), impl.Reply{N: 5}}, {demoHost(), ticking(500), impl.Reply{}}, {fullHost(), ticking(1), impl.Reply{Code: impl.ErrFull}},
	} {
		then, text, code := impl.ServeText(v.h, framedRow(requestRow(v.q)))
		wantHost, reply, _ := impl.AskHost(v.h, v.q)
		if text != framedRow(replyRow(v.reply)) || code != impl.OK || !alike(then, wantHost) || !alike(reply, v.reply) {
			t.Errorf("%d: ServeText of %v: %x, %d; AskHost: %v; want %v", i, v.q, text, code, reply, v.reply)
		}
		if back, code := impl.ReadReply(text); !alike(back, v.reply) || code != impl.OK {
			t.Errorf("%d: ReadReply(%x) = %v, %d; want %v", i, text, back, code, v.reply)
		}
		askServe(t, v.h, framedRow(requestRow(v.q)))
	}
}

// TestP17WhatIsNoRequestChangesNothing: each code of ReadRequest is told alone, and the host is as it is.
func TestP17WhatIsNoRequestChangesNothing(t *testing.T) {
	var list []wrongBytes
	for _, q := range []impl.Request{opening(), closing(1), editing(1, impl.Edit{Kind: impl.EdText, Node: 9, Text: "text"})} {
		list = append(list, wrongFrames(rowBytes(requestRow(q)))...)
		for _, w := range faultsIn(requestRow(q)) {
			list = append(list, wrongBytes{frameByTheRule(w.text), w.code})
		}
		for _, text := range lessAndMore(rowBytes(requestRow(q))) {
			list = append(list, wrongBytes{frameByTheRule(text), impl.ErrSize})
		}
	}
	for _, q := range wrongRequests() {
		if row := requestRow(q); tellable(row) && len(q.Edit.Text) < 200 && (q.Edit == impl.Edit{} || q.Kind == impl.RqEdit) {
			list = append(list, wrongBytes{framedRow(row), impl.ErrKind})
		}
	}
	hosts := []impl.Host{demoHost(), busyHost(), fullHost(), rootHost(), victimHost()}
	codes := map[int]int{}
	for i, w := range list {
		h := hosts[i%len(hosts)]
		if w.code == impl.ErrLong {
			continue
		}
		codes[w.code]++
		then, text, code := impl.ServeText(h, w.text)
		if text != frameByTheRule(string([]byte{byte(w.code), 0})) || code != impl.OK || !alike(then, h) {
			t.Fatalf("ServeText(%s, %.200x) = %s, %x, %d; want a reply with code %d alone", short(h), w.text, short(then), text, code, w.code)
		}
		if r, code := impl.ReadReply(text); code != impl.OK || !alike(r, impl.Reply{Code: w.code}) {
			t.Fatalf("ReadReply(%x) = %v, %d", text, r, code)
		}
	}
	askCounts(t, codes, 30, impl.ErrForm, impl.ErrRange, impl.ErrSize, impl.ErrSum, impl.ErrKind)
}

// TestP17ServingWrongHosts: ErrBad, whatever the bytes are; but bytes that are too long come first (rule 8).
func TestP17ServingWrongHosts(t *testing.T) {
	texts := []string{framedRow(requestRow(opening())), framedRow(requestRow(ticking(1))), "", "junk!", framedRow([]any{12, 1, 0, 0}), frameByTheRule(""), zeros(65536)}
	for i, h := range wrongHosts() {
		for _, bytes := range []string{texts[i%len(texts)], texts[i/7%len(texts)]} {
			if then, text, code := impl.ServeText(h, bytes); code != impl.ErrBad || text != "" || !alike(then, impl.Host{}) {
				t.Fatalf("%d: ServeText(%s, %.20x) = %s, %x, %d; want ErrBad", i, short(h), bytes, short(then), text, code)
			}
		}
	}
	frame := framedRow(requestRow(opening()))
	for i, h := range []impl.Host{demoHost(), busyHost(), {}, wrongHosts()[0]} {
		for _, bytes := range []string{zeros(65537), frame + zeros(65537-len(frame)), frameByTheRule(zeros(65530)), zeros(300000)} {
			if then, text, code := impl.ServeText(h, bytes); code != impl.ErrLong || text != "" || !alike(then, impl.Host{}) {
				t.Errorf("%d: ServeText of %d bytes: %s, %x, %d; want ErrLong", i, len(bytes), short(then), text, code)
			}
		}
		for _, bytes := range []string{frame + zeros(65536-len(frame)), frameByTheRule(zeros(65529)), zeros(65536)} {
			want := impl.OK
			if i > 1 {
				want = impl.ErrBad
			}
			if _, _, code := impl.ServeText(h, bytes); len(bytes) != 65536 || code != want {
				t.Errorf("%d: ServeText of %d bytes: code %d, want %d", i, len(bytes), code, want)
			}
		}
	}
}

// TestP17ServingLongRows serves thrown requests, with what is no request between them: the host is that of AskAll.
func TestP17ServingLongRows(t *testing.T) {
	throw := &dice{277}
	codes := map[int]int{}
	for i := range 30 {
		start := demoHost()
		if i%3 > 0 {
			start = thrownHost(throw, 3)
		}
		h := start
		var asked []impl.Request
		var replies []impl.Reply
		for range 60 {
			q := thrownRequest(throw, h)
			frame := framedRow(requestRow(q))
			if throw.below(3) == 0 {
				turned := turnedBytes(throw, frame)
				if bytes := turned[throw.below(len(turned))]; bytes != frame {
					askServe(t, h, bytes)
					h, _, _ = impl.ServeText(h, bytes)
				}
			}
			askServe(t, h, frame)
			then, text, code := impl.ServeText(h, frame)
			reply, fault := impl.ReadReply(text)
			if code != impl.OK || fault != impl.OK {
				t.Fatalf("ServeText(%s, %x): %x, %d; ReadReply: %d", short(h), frame, text, code, fault)
			}
			codes[reply.Code]++
			asked, replies, h = append(asked, q), append(replies, reply), then
		}
		if wantHost, want, code := impl.AskAll(start, asked); code != impl.OK || !alike(h, wantHost) || !alike(replies, want) {
			t.Fatalf("AskAll(%v) has other answers: %s, %v; want %s, %v", asked, short(h), replies, short(wantHost), want)
		}
	}
	askCounts(t, codes, 3, impl.OK, impl.ErrLapsed, impl.ErrHeld, impl.ErrWait, impl.ErrWork, impl.ErrMode)
}

// TestP17ServingTurnedRequests: bytes of requests with some of them turned in a frame that is right: each is answered.
func TestP17ServingTurnedRequests(t *testing.T) {
	throw := &dice{281}
	done, not := 0, 0
	for _, q := range slices.Concat(busyRequests(), rightRequests()[:40]) {
		for _, text := range turnedBytes(throw, rowBytes(requestRow(q))) {
			askServe(t, busyHost(), frameByTheRule(text))
			_, bytes, _ := impl.ServeText(busyHost(), frameByTheRule(text))
			reply, code := impl.ReadReply(bytes)
			if code != impl.OK {
				t.Fatalf("ServeText of %x in a frame: %x, which is read with code %d", text, bytes, code)
			}
			if reply.Code == impl.OK {
				done++
			} else {
				not++
			}
		}
	}
	if done < 50 || not < 500 {
		t.Error("too few of one sort:", done, not)
	}
}

// TestP17ServingNearTheLastClock: a reply whose N is above MaxNumber can't be told, so its text is that of ReplyText: empty.
// The request is done all the same.
func TestP17ServingNearTheLastClock(t *testing.T) {
	for _, v := range []struct{ clock, lease int }{{999948, 50}, {999949, 50}, {999950, 50}, {999999, 1}, {999998, 1}, {999999, 500}, {999499, 500}, {999500, 500}} {
		h := turnedHost(hostWith(1, impl.Table{}), func(h *impl.Host) { h.Clock, h.Lease, h.Sessions[0].Until = v.clock, v.lease, v.clock+1 })
		until := v.clock + v.lease
		want := ""
		if until <= 999999 {
			want = framedRow([]any{0, until})
		}
		then, text, code := impl.ServeText(h, framedRow(requestRow(renewing(1))))
		if s, _ := impl.SessionOf(then, 1); text != want || code != impl.OK || s.Until != until {
			t.Errorf("ServeText at %d with lease %d: %s, %x, %d; want Until %d and %x", v.clock, v.lease, short(then), text, code, until, want)
		}
		askServe(t, h, framedRow(requestRow(renewing(1))))
		askServe(t, then, framedRow(requestRow(ticking(1))))
	}
}
