package link_test

import (
	"fmt"
	"math/rand"
	"runtime"
	"slices"
	"strings"
	"testing"
	"time"

	"tinplate/api"
	"tinplate/link"
)

// made returns a new net.
func made(t *testing.T, n int) *link.Net {
	t.Helper()
	net, err := link.New(n)
	if net == nil || err != api.OK {
		t.Fatal(n, err)
	}
	return net
}

func ok(t *testing.T, errs ...api.Errno) {
	t.Helper()
	for i, err := range errs {
		if err != api.OK {
			t.Fatal(i, err)
		}
	}
}

// sent checks what waits.
func sent(t *testing.T, net *link.Net, want ...api.Message) {
	t.Helper()
	if got := net.Messages(); !slices.Equal(got, want) {
		t.Fatal(got, want)
	}
}

func settle(t *testing.T, net *link.Net) int {
	t.Helper()
	n, err := net.Settle(api.MaxFuel)
	if err != api.OK || len(net.Messages()) > 0 {
		t.Fatal(n, err, net.Messages())
	}
	return n
}

func known(t *testing.T, net *link.Net, station, index int) string {
	t.Helper()
	v, err := net.Known(station, index)
	ok(t, err)
	return v
}

// shown is all that a net shows.
func shown(net *link.Net) string {
	var b strings.Builder
	fmt.Fprintln(&b, net.Messages())
	for i := range places {
		fmt.Fprintln(&b)
		fmt.Fprint(&b, fmt.Sprint(net.Chosen(i)))
		for s := range api.MaxStations {
			fmt.Fprint(&b, fmt.Sprint(net.Up(s)), fmt.Sprint(net.Promised(s, i)))
			fmt.Fprint(&b, fmt.Sprint(net.Accepted(s, i)), fmt.Sprint(net.Known(s, i)))
		}
	}
	return b.String()
}

// P9.1: New.
func TestNew(t *testing.T) {
	for _, n := range []int{-1 << 63, -1, 0, api.MaxStations + 1, 1<<63 - 1} {
		if net, err := link.New(n); net != nil || err != api.ErrArg {
			t.Error(n, net, err)
		}
	}
	for n := 1; n <= api.MaxStations; n++ {
		net := made(t, n)
		sent(t, net)
		for s := range n {
			if up, err := net.Up(s); !up || err != api.OK {
				t.Error(n, s, up, err)
			}
			for i := range places {
				p, e := net.Promised(s, i)
				a, f := net.Accepted(s, i)
				k, g := net.Known(s, i)
				if p != 0 || a != (api.Accepted{}) || k != "" || e != api.OK || f != api.OK || g != api.OK {
					t.Error(n, s, i, p, a, k, e, f, g)
				}
			}
		}
		for i := range places {
			if v, is, err := net.Chosen(i); v != "" || is || err != api.OK {
				t.Error(n, i, v, is, err)
			}
		}
	}
}

// P9.1: the messages of a proposal, one by one, with the fields that they use (example 1).
func TestMessages(t *testing.T) {
	net := made(t, 3)
	ok(t, net.Propose(0, 4, "a"))
	m := func(kind, from, to, ballot, old int, value string) api.Message {
		return api.Message{Kind: kind, From: from, To: to, Ballot: ballot, Index: 4, Old: old, Value: value}
	}
	sent(t, net, m(api.MsgPrepare, 0, 0, 3, 0, ""), m(api.MsgPrepare, 0, 1, 3, 0, ""), m(api.MsgPrepare, 0, 2, 3, 0, ""))
	ok(t, net.Deliver(1))
	sent(t, net, m(api.MsgPrepare, 0, 0, 3, 0, ""), m(api.MsgPrepare, 0, 2, 3, 0, ""), m(api.MsgPromise, 1, 0, 3, 0, ""))
	ok(t, net.Drop(1), net.Deliver(0))
	sent(t, net, m(api.MsgPromise, 1, 0, 3, 0, ""), m(api.MsgPromise, 0, 0, 3, 0, ""))
	ok(t, net.Deliver(0))
	sent(t, net, m(api.MsgPromise, 0, 0, 3, 0, ""))
	ok(t, net.Deliver(0))
	sent(t, net, m(api.MsgAccept, 0, 0, 3, 0, "a"), m(api.MsgAccept, 0, 1, 3, 0, "a"), m(api.MsgAccept, 0, 2, 3, 0, "a"))
	ok(t, net.Drop(0), net.Deliver(0))
	sent(t, net, m(api.MsgAccept, 0, 2, 3, 0, "a"), m(api.MsgAccepted, 1, 0, 3, 0, ""))
	if _, is, _ := net.Chosen(4); is {
		t.Error("one of three is no majority")
	}
	ok(t, net.Deliver(0))
	sent(t, net, m(api.MsgAccepted, 1, 0, 3, 0, ""), m(api.MsgAccepted, 2, 0, 3, 0, ""))
	if v, is, err := net.Chosen(4); v != "a" || !is || err != api.OK {
		t.Error(v, is, err)
	}
	ok(t, net.Deliver(1), net.Deliver(0))
	sent(t, net, m(api.MsgLearn, 0, 1, 0, 0, "a"), m(api.MsgLearn, 0, 2, 0, 0, "a"))
	if known(t, net, 0, 4) != "a" || known(t, net, 1, 4) != "" {
		t.Error(shown(net))
	}
	ok(t, net.Deliver(1))
	sent(t, net, m(api.MsgLearn, 0, 1, 0, 0, "a"))
	if known(t, net, 2, 4) != "a" || known(t, net, 1, 4) != "" || known(t, net, 2, 5) != "" {
		t.Error(shown(net))
	}
}

// P9.1: a station that has promised more refuses, and one that has accepted something tells so.
func TestRefusals(t *testing.T) {
	net := made(t, 3)
	m := func(kind, from, to, ballot, old int, value string) api.Message {
		return api.Message{Kind: kind, From: from, To: to, Ballot: ballot, Old: old, Value: value}
	}
	ok(t, net.Propose(1, 0, "b")) // with the ballot 1
	ok(t, net.Drop(1), net.Deliver(0), net.Deliver(0), net.Deliver(0), net.Deliver(0))
	sent(t, net, m(api.MsgAccept, 1, 0, 1, 0, "b"), m(api.MsgAccept, 1, 1, 1, 0, "b"), m(api.MsgAccept, 1, 2, 1, 0, "b"))
	ok(t, net.Deliver(1))              // 1 accepts it
	ok(t, net.Propose(0, 0, "a"))      // with the ballot 3: 0 refuses 1 from now on
	ok(t, net.Deliver(0), net.Drop(0)) // 2 hears nothing of 1
	sent(t, net, m(api.MsgAccepted, 1, 1, 1, 0, ""), m(api.MsgPrepare, 0, 0, 3, 0, ""), m(api.MsgPrepare, 0, 1, 3, 0, ""),
		m(api.MsgPrepare, 0, 2, 3, 0, ""), m(api.MsgRefuse, 0, 1, 1, 3, ""))
	ok(t, net.Deliver(4), net.Deliver(0)) // 1 drops its proposal; what it has accepted is too late
	ok(t, net.Drop(2))
	ok(t, net.Deliver(1), net.Deliver(0))
	sent(t, net, m(api.MsgPromise, 1, 0, 3, 1, "b"), m(api.MsgPromise, 0, 0, 3, 0, ""))
	ok(t, net.Deliver(1), net.Deliver(0))
	sent(t, net, m(api.MsgAccept, 0, 0, 3, 0, "b"), m(api.MsgAccept, 0, 1, 3, 0, "b"), m(api.MsgAccept, 0, 2, 3, 0, "b"))
	ok(t, net.Propose(1, 0, "c")) // with 4, as it has promised and was told 3
	ok(t, net.Drop(0))
	sent(t, net, m(api.MsgAccept, 0, 1, 3, 0, "b"), m(api.MsgAccept, 0, 2, 3, 0, "b"), m(api.MsgPrepare, 1, 0, 4, 0, ""),
		m(api.MsgPrepare, 1, 1, 4, 0, ""), m(api.MsgPrepare, 1, 2, 4, 0, ""))
	ok(t, net.Deliver(0))
	if l := net.Messages(); l[len(l)-1] != m(api.MsgRefuse, 1, 0, 3, 4, "") {
		t.Error(l)
	}
	settle(t, net)
	for s := range 3 {
		if known(t, net, s, 0) != "b" {
			t.Error(shown(net))
		}
	}
}

// P9.1: a new proposal uses the lowest ballot of its station that is higher than what it has promised and was told.
func TestBallots(t *testing.T) {
	for n := 1; n <= api.MaxStations; n++ {
		for s := range n {
			net := made(t, n)
			last := 0
			for range 5 {
				ok(t, net.Propose(s, 0, "a"))
				b, err := net.Promised(s, 0)
				ok(t, err)
				if b <= last || b > last+n || b%n != s {
					t.Error(n, s, last, b)
				}
				if l := net.Messages(); l[len(l)-1].Ballot != b {
					t.Error(l)
				}
				last = b
			}
		}
	}
	net := made(t, 3)
	for range 7 {
		ok(t, net.Propose(2, 0, "c")) // up to the ballot 20
	}
	for range 20 {
		ok(t, net.Drop(0))
	}
	ok(t, net.Deliver(0)) // only 2 has promised 20
	ok(t, net.Drop(0))
	ballot := func() int {
		ok(t, net.Propose(0, 0, "a"))
		b, _ := net.Promised(0, 0)
		ok(t, net.Drop(0), net.Drop(0))
		return b
	}
	if b := ballot(); b != 3 {
		t.Error(b)
	}
	ok(t, net.Repeat(0), net.Deliver(0), net.Deliver(1)) // 2 refuses it, and 0 hears so
	sent(t, net, api.Message{Kind: api.MsgPrepare, From: 0, To: 2, Ballot: 3})
	if b, _ := net.Promised(0, 0); b != 3 {
		t.Error("what is told is not promised", b)
	}
	if b := ballot(); b != 21 {
		t.Error(b)
	}
	ok(t, net.Drop(0), net.Drop(0))
	if b := ballot(); b != 24 {
		t.Error(b)
	}
}

// P9.1, P9.2: a station that comes back has forgotten what it was told, and has a ballot refused again.
func TestToldIsForgotten(t *testing.T) {
	for _, crashed := range []bool{false, true} {
		net := made(t, 2)
		for range 3 {
			ok(t, net.Propose(1, 0, "b")) // 1, 3 and 5
		}
		for len(net.Messages()) > 0 {
			ok(t, net.Drop(0))
		}
		ok(t, net.Propose(0, 0, "a"), net.Drop(0), net.Deliver(0), net.Deliver(0)) // 2 is refused with 5
		if crashed {
			ok(t, net.Crash(0), net.Start(0))
		}
		ok(t, net.Propose(0, 0, "a"))
		want := 6
		if crashed {
			want = 4
		}
		if b, _ := net.Promised(0, 0); b != want {
			t.Error(crashed, b)
		}
	}
}

// P9.1: several refusals are all kept, and only the one of its own ballot drops a proposal.
func TestRefusalOfAnOldBallot(t *testing.T) {
	net := made(t, 3)
	for range 4 {
		ok(t, net.Propose(2, 0, "c")) // 2, 5, 8 and 11
	}
	for range 11 {
		ok(t, net.Drop(0))
	}
	ok(t, net.Drop(0))
	ok(t, net.Propose(1, 0, "b"), net.Drop(0), net.Drop(0), net.Deliver(0)) // 1 is refused with 11 by 2
	refusal := net.Messages()[0]
	if refusal != (api.Message{Kind: api.MsgRefuse, From: 2, To: 1, Ballot: 1, Old: 11}) {
		t.Fatal(refusal)
	}
	ok(t, net.Propose(1, 0, "b")) // the refusal is still on its way: with 4
	ok(t, net.Deliver(0))
	m := func(to int) api.Message { return api.Message{Kind: api.MsgPrepare, From: 1, To: to, Ballot: 4} }
	sent(t, net, m(0), m(1), m(2))
	ok(t, net.Drop(2))
	settle(t, net)
	if v := known(t, net, 1, 0); v != "b" {
		t.Error("the proposal goes on with 0 and 1, who accept it before 2 refuses it", v)
	}
}

// P9.1: which error comes first.
func TestProposeErrors(t *testing.T) {
	net := made(t, 3)
	ok(t, net.Crash(1))
	long := strings.Repeat("x", api.MaxWord)
	for _, c := range []struct {
		station, index int
		value          string
		want           api.Errno
	}{
		{0, 0, "x", api.OK}, {0, api.MaxIndex, long, api.OK}, {2, 3, "\x00\xff", api.OK}, {2, 3, " ", api.OK},
		{0, -1, "x", api.ErrArg}, {0, api.MaxIndex + 1, "x", api.ErrArg},
		{0, -1 << 63, "x", api.ErrArg}, {0, 1<<63 - 1, "x", api.ErrArg},
		{0, 0, "", api.ErrArg}, {0, 0, long + "x", api.ErrArg},
		{0, 0, strings.Repeat("é", 33), api.ErrArg}, {0, 0, strings.Repeat("é", 32), api.OK},
		{-1, 0, "x", api.ErrNone}, {3, 0, "x", api.ErrNone}, {-1 << 63, 0, "x", api.ErrNone}, {1<<63 - 1, 0, "x", api.ErrNone},
		{3, 16, "x", api.ErrArg}, {-1, 0, "", api.ErrArg}, {1, 16, "x", api.ErrArg}, {1, 0, "", api.ErrArg},
		{1, 0, "x", api.ErrState},
	} {
		before := shown(net)
		if err := net.Propose(c.station, c.index, c.value); err != c.want {
			t.Error(c, err)
		}
		if after := shown(net); (after == before) != (c.want != api.OK) {
			t.Error(c, before, after)
		}
	}
	for len(net.Messages()) < api.MaxMessages {
		ok(t, net.Repeat(0))
	}
	for _, c := range []struct {
		station, index int
		value          string
		want           api.Errno
	}{
		{0, 16, "x", api.ErrArg}, {0, 0, "", api.ErrArg}, {3, 0, "x", api.ErrNone}, {1, 0, "x", api.ErrState},
		{0, 0, "x", api.ErrFull},
	} {
		if err := net.Propose(c.station, c.index, c.value); err != c.want {
			t.Error(c, err)
		}
	}
}

// P9.1: Deliver, Drop and Repeat of messages that are not there.
func TestNoMessage(t *testing.T) {
	net := made(t, 2)
	check := func(k int) {
		t.Helper()
		before := shown(net)
		for what, call := range []func(int) api.Errno{net.Deliver, net.Drop, net.Repeat} {
			if err := call(k); err != api.ErrNone {
				t.Error(what, k, err)
			}
		}
		if after := shown(net); after != before {
			t.Error(k, before, after)
		}
	}
	for _, k := range []int{-1 << 63, -1, 0, 1, 1<<63 - 1} {
		check(k)
	}
	ok(t, net.Propose(0, 0, "a"))
	for _, k := range []int{-1 << 63, -1, 2, 3, 1<<63 - 1} {
		check(k)
	}
	ok(t, net.Drop(1))
	check(1)
	ok(t, net.Repeat(0), net.Drop(1), net.Drop(0))
	check(0)
}

// P9.1: Drop and Repeat of messages in the middle.
func TestDropAndRepeat(t *testing.T) {
	net := made(t, 5)
	ok(t, net.Propose(3, 2, "a"))
	m := func(to int) api.Message {
		return api.Message{Kind: api.MsgPrepare, From: 3, To: to, Ballot: 3, Index: 2}
	}
	ok(t, net.Drop(2))
	sent(t, net, m(0), m(1), m(3), m(4))
	ok(t, net.Repeat(1))
	sent(t, net, m(0), m(1), m(3), m(4), m(1))
	ok(t, net.Drop(0))
	sent(t, net, m(1), m(3), m(4), m(1))
	ok(t, net.Drop(3))
	sent(t, net, m(1), m(3), m(4))
	ok(t, net.Repeat(2), net.Repeat(0))
	sent(t, net, m(1), m(3), m(4), m(4), m(1))
}

// P9.1: a message that a station hears twice counts once.
func TestRepeatedMessagesCountOnce(t *testing.T) {
	net := made(t, 5)
	ok(t, net.Propose(0, 0, "a"))
	ok(t, net.Drop(4), net.Drop(3), net.Repeat(1), net.Repeat(1)) // to 0, 1, 2, 1 and 1
	for range 5 {
		ok(t, net.Deliver(0))
	}
	one := func(from int) api.Message { return api.Message{Kind: api.MsgPromise, From: from, Ballot: 5} }
	sent(t, net, one(0), one(1), one(2), one(1), one(1))
	ok(t, net.Deliver(1), net.Deliver(2), net.Deliver(2))
	sent(t, net, one(0), one(2))
	ok(t, net.Repeat(1), net.Deliver(0))
	sent(t, net, one(2), one(2))
	ok(t, net.Deliver(0))
	if l := net.Messages(); len(l) != 6 || l[5] != (api.Message{Kind: api.MsgAccept, To: 4, Ballot: 5, Value: "a"}) {
		t.Fatal(l)
	}
	ok(t, net.Deliver(0)) // a promise when the value is fixed
	ok(t, net.Repeat(1), net.Repeat(1), net.Deliver(1), net.Deliver(4), net.Deliver(4))
	got := func(from int) api.Message { return api.Message{Kind: api.MsgAccepted, From: from, Ballot: 5} }
	if l := net.Messages(); len(l) != 7 || l[4] != got(1) || l[5] != got(1) || l[6] != got(1) {
		t.Fatal(l)
	}
	ok(t, net.Deliver(4), net.Deliver(4), net.Deliver(4))
	if v := known(t, net, 0, 0); v != "" {
		t.Error("known by one station of five", v)
	}
	settle(t, net)
	if v := known(t, net, 4, 0); v != "a" {
		t.Error(v)
	}
}

// P9.1: a station that knows a value sends it to all others when it is to propose, and proposes nothing.
func TestProposeWhatIsKnown(t *testing.T) {
	for n := 1; n <= api.MaxStations; n++ {
		net := made(t, n)
		ok(t, net.Propose(n-1, 7, "a"))
		settle(t, net)
		for s := range n {
			before, _ := net.Promised(s, 7)
			ok(t, net.Propose(s, 7, "b"))
			if b, _ := net.Promised(s, 7); b != before {
				t.Error(n, s, before, b)
			}
			var want []api.Message
			for to := range n {
				if to != s {
					want = append(want, api.Message{Kind: api.MsgLearn, From: s, To: to, Index: 7, Value: "a"})
				}
			}
			sent(t, net, want...)
			if k := settle(t, net); k != n-1 {
				t.Error(n, s, k)
			}
		}
		ok(t, net.Propose(0, 6, "b"))
		if len(net.Messages()) != n {
			t.Error("another index", net.Messages())
		}
	}
}

// P9.1: a proposal is dropped when its station learns the value.
func TestLearnDropsTheProposal(t *testing.T) {
	net := made(t, 3)
	ok(t, net.Propose(0, 0, "a"))
	for range 12 {
		ok(t, net.Deliver(0))
	}
	ok(t, net.Propose(1, 0, "b")) // while it is told that "a" is chosen
	l := net.Messages()
	if len(l) != 5 || l[0].Kind != api.MsgLearn || l[0].To != 1 {
		t.Fatal(l)
	}
	ok(t, net.Deliver(3), net.Deliver(3), net.Deliver(0)) // two stations promise, then 1 learns
	ok(t, net.Deliver(2), net.Deliver(2))                 // the promises
	for _, m := range net.Messages() {
		if m.Kind == api.MsgAccept {
			t.Error(m)
		}
	}
}

// P9.1: a value that is not known yet is learned, and one that is known is not changed.
func TestLearn(t *testing.T) {
	net := made(t, 2)
	ok(t, net.Propose(0, 0, "a"))
	settle(t, net)
	ok(t, net.Propose(0, 0, "b"), net.Propose(1, 0, "c"))
	settle(t, net)
	if known(t, net, 0, 0) != "a" || known(t, net, 1, 0) != "a" {
		t.Error(shown(net))
	}
}

// full returns a net of three stations and a list of so many messages, of which the second one is a promise to 0 that
// makes a majority, and the others are MsgPrepare to 2.
func full(t *testing.T, messages int) *link.Net {
	t.Helper()
	net := made(t, 3)
	ok(t, net.Propose(0, 0, "a"), net.Deliver(0), net.Deliver(0), net.Deliver(1))
	for len(net.Messages()) < messages {
		ok(t, net.Repeat(0))
	}
	if l := net.Messages(); l[1] != (api.Message{Kind: api.MsgPromise, From: 1, Ballot: 3}) {
		t.Fatal(l[1])
	}
	return net
}

// P9.1: a list that is full, and a call that returns ErrFull changes nothing.
func TestFull(t *testing.T) {
	for _, c := range []struct {
		messages int
		want     api.Errno
	}{{396, api.OK}, {397, api.OK}, {398, api.OK}, {399, api.ErrFull}, {400, api.ErrFull}} {
		net := full(t, c.messages)
		before := shown(net)
		heard := net.Copy()
		if err := heard.Deliver(1); err != c.want || (err != api.OK) != (shown(heard) == before) {
			t.Fatal(c, err, shown(heard))
		}
		if c.want != api.OK { // with room for the messages, the promise is heard as if for the first time
			ok(t, heard.Drop(3), heard.Drop(2), heard.Deliver(1))
		}
		if l := heard.Messages(); len(l) > api.MaxMessages || l[len(l)-1].Kind != api.MsgAccept {
			t.Error(l)
		}
		want := api.OK
		if c.messages > 397 {
			want = api.ErrFull
		}
		if err := net.Propose(1, 3, "b"); err != want || (err != api.OK) != (shown(net) == before) {
			t.Error(c, err)
		}
	}
	net := full(t, 400)
	before := shown(net)
	if err := net.Repeat(0); err != api.ErrFull || shown(net) != before {
		t.Error(err)
	}
	ok(t, net.Drop(0), net.Repeat(398))
	if err := net.Repeat(400); err != api.ErrNone {
		t.Error("ErrNone comes before ErrFull", err)
	}
	ok(t, net.Crash(2), net.Deliver(1)) // it is lost
	if l := net.Messages(); len(l) != 399 {
		t.Error(len(l))
	}
}

// P9.1: MsgLearn to the others must have room too, both after a proposal is accepted and of what is known.
func TestFullOfLearning(t *testing.T) {
	net := made(t, 5)
	ok(t, net.Propose(0, 0, "a"))
	for range 17 {
		ok(t, net.Deliver(0))
	}
	l := net.Messages() // two have accepted it, and this makes a majority
	if len(l) != 3 || l[0].Kind != api.MsgAccepted {
		t.Fatal(l)
	}
	for len(net.Messages()) < api.MaxMessages {
		ok(t, net.Repeat(1))
	}
	for range 3 {
		before := shown(net)
		if err := net.Deliver(0); err != api.ErrFull || shown(net) != before || known(t, net, 0, 0) != "" {
			t.Error(len(net.Messages()), err)
		}
		ok(t, net.Drop(1))
	}
	ok(t, net.Deliver(0))
	if n := len(net.Messages()); n != api.MaxMessages || known(t, net, 0, 0) != "a" {
		t.Error(n)
	}
	for range 4 {
		before := shown(net)
		if err := net.Propose(0, 0, "b"); err != api.ErrFull || shown(net) != before {
			t.Error(len(net.Messages()), err)
		}
		ok(t, net.Drop(0))
	}
	ok(t, net.Propose(0, 0, "b"))
	if l := net.Messages(); len(l) != api.MaxMessages || l[399].Kind != api.MsgLearn {
		t.Error(len(l))
	}
}

// P9.1: a message to a station that is down is lost.
func TestLost(t *testing.T) {
	net := made(t, 3)
	ok(t, net.Propose(0, 0, "a"), net.Crash(1), net.Crash(0))
	ok(t, net.Deliver(1), net.Deliver(0))
	sent(t, net, api.Message{Kind: api.MsgPrepare, From: 0, To: 2, Ballot: 3})
	if b, err := net.Promised(1, 0); b != 0 || err != api.OK {
		t.Error(b, err)
	}
	ok(t, net.Deliver(0), net.Start(0), net.Start(1))
	sent(t, net, api.Message{Kind: api.MsgPromise, From: 2, To: 0, Ballot: 3})
	ok(t, net.Deliver(0))
	sent(t, net)
	if _, is, _ := net.Chosen(0); is {
		t.Error(shown(net))
	}
}

// P9.2: Crash, Start and Up.
func TestCrash(t *testing.T) {
	net := made(t, 3)
	for _, s := range []int{-1 << 63, -1, 3, 1<<63 - 1} {
		up, err := net.Up(s)
		if net.Crash(s) != api.ErrNone || net.Start(s) != api.ErrNone || up || err != api.ErrNone {
			t.Error(s, up, err)
		}
	}
	check := func(want ...bool) {
		t.Helper()
		for s, w := range want {
			if up, err := net.Up(s); up != w || err != api.OK {
				t.Error(s, up, err)
			}
		}
	}
	check(true, true, true)
	if err := net.Start(0); err != api.ErrState {
		t.Error(err)
	}
	ok(t, net.Crash(0), net.Crash(2))
	check(false, true, false)
	if err := net.Crash(2); err != api.ErrState {
		t.Error(err)
	}
	ok(t, net.Start(2))
	check(false, true, true)
	if err := net.Start(2); err != api.ErrState {
		t.Error(err)
	}
	ok(t, net.Crash(2), net.Crash(1), net.Start(0))
	check(true, false, false)
}

// P9.2: a crash loses the proposal, and leaves the disk and the messages.
func TestCrashLosesTheMemory(t *testing.T) {
	net := made(t, 3)
	ok(t, net.Propose(0, 0, "a"))
	for range 5 {
		ok(t, net.Deliver(0))
	}
	before := net.Messages() // the third promise, and MsgAccept to all
	if len(before) != 4 || before[3].Kind != api.MsgAccept {
		t.Fatal(before)
	}
	ok(t, net.Deliver(1))
	disk, messages := fmt.Sprint(net.Promised(0, 0))+fmt.Sprint(net.Accepted(0, 0)), net.Messages()
	ok(t, net.Crash(0))
	if fmt.Sprint(net.Promised(0, 0))+fmt.Sprint(net.Accepted(0, 0)) != disk || !slices.Equal(net.Messages(), messages) {
		t.Error(shown(net))
	}
	ok(t, net.Start(0))
	if fmt.Sprint(net.Promised(0, 0))+fmt.Sprint(net.Accepted(0, 0)) != disk || disk != "3 0{3 a} 0" {
		t.Error(disk, shown(net))
	}
	settle(t, net)
	if v, is, _ := net.Chosen(0); v != "a" || !is {
		t.Error("it is chosen, but nobody counts", v, is)
	}
	for s := range 3 {
		if v := known(t, net, s, 0); v != "" {
			t.Error(s, v)
		}
	}
	ok(t, net.Propose(2, 0, "c")) // whoever proposes gets to know it
	settle(t, net)
	for s := range 3 {
		if v := known(t, net, s, 0); v != "a" {
			t.Error(s, v)
		}
	}
	ok(t, net.Crash(1), net.Start(1))
	if v := known(t, net, 1, 0); v != "a" {
		t.Error("what is known is on disk", v)
	}
}

// P9.3: Settle (and example 1).
func TestSettle(t *testing.T) {
	for n, want := range []int{1: 4, 2: 9, 3: 14, 4: 19, 5: 24} {
		if n == 0 {
			continue
		}
		for s := range n {
			net := made(t, n)
			ok(t, net.Propose(s, 0, "a"))
			if got := settle(t, net); got != want {
				t.Error(n, s, got)
			}
			for s := range n {
				if v := known(t, net, s, 0); v != "a" {
					t.Error(n, s, v)
				}
			}
		}
	}
	net := made(t, 3)
	ok(t, net.Propose(0, 0, "a"))
	before := shown(net)
	for _, limit := range []int{-1 << 63, -1, api.MaxFuel + 1, 1<<63 - 1} {
		if n, err := net.Settle(limit); n != 0 || err != api.ErrArg || shown(net) != before {
			t.Error(limit, n, err)
		}
	}
	if n, err := net.Settle(0); n != 0 || err != api.OK || shown(net) != before {
		t.Error(n, err)
	}
	for _, c := range []struct{ limit, want int }{{1, 1}, {5, 5}, {8, 8}, {1, 0}, {api.MaxFuel, 0}} {
		if n, err := net.Settle(c.limit); n != c.want || err != api.OK {
			t.Error(c, n, err)
		}
	}
	net = made(t, 3)
	ok(t, net.Propose(0, 0, "a"), net.Crash(0), net.Crash(1), net.Crash(2))
	if n := settle(t, net); n != 3 {
		t.Error("what is lost is delivered too", n)
	}
}

// P9.3: Settle goes through the list from its front: as often as Deliver(0) does.
func TestSettleIsDeliver(t *testing.T) {
	r := rand.New(rand.NewSource(93))
	for run := range 300 {
		p := newPair(1 + r.Intn(api.MaxStations))
		for range r.Intn(60) {
			p.step(moods[run%len(moods)].step(r, p.model.n, len(p.model.list)))
		}
		other, limit, n := p.net.Copy(), r.Intn(60), 0
		for n < limit && other.Deliver(0) == api.OK {
			n++
		}
		if got, err := p.net.Settle(limit); got != n || err != api.OK || shown(p.net) != shown(other) {
			t.Fatal(run, limit, n, got, err)
		}
	}
}

// P9.3: Settle in a list that is full: what was delivered before stays so.
func TestSettleFull(t *testing.T) {
	net := full(t, 400)
	other, n := net.Copy(), 0
	for other.Deliver(0) == api.OK {
		n++
	}
	if n == 0 || len(other.Messages()) != 400 {
		t.Fatal(n)
	}
	if got, err := net.Copy().Settle(n); got != n || err != api.OK {
		t.Error(got, err)
	}
	if got, err := net.Settle(n + 1); got != 0 || err != api.ErrFull || shown(net) != shown(other) {
		t.Error(got, err)
	}
	if got, err := net.Settle(0); got != 0 || err != api.OK {
		t.Error(got, err)
	}
	if got, err := net.Settle(1); got != 0 || err != api.ErrFull || shown(net) != shown(other) {
		t.Error(got, err)
	}
}

// P9.4: looking at stations and indexes that are not there.
func TestLookErrors(t *testing.T) {
	net := made(t, 3)
	ok(t, net.Propose(0, 0, "a"))
	settle(t, net)
	for _, c := range []struct {
		station, index int
		want           api.Errno
	}{
		{0, 0, api.OK}, {2, api.MaxIndex, api.OK}, {-1, 0, api.ErrNone}, {3, 0, api.ErrNone},
		{-1 << 63, 0, api.ErrNone}, {1<<63 - 1, 0, api.ErrNone}, {3, 16, api.ErrNone}, {-1, -1, api.ErrNone},
		{0, -1, api.ErrArg}, {0, 16, api.ErrArg}, {0, -1 << 63, api.ErrArg}, {0, 1<<63 - 1, api.ErrArg},
	} {
		k, e := net.Known(c.station, c.index)
		p, f := net.Promised(c.station, c.index)
		a, g := net.Accepted(c.station, c.index)
		if e != c.want || f != c.want || g != c.want {
			t.Error(c, e, f, g)
		}
		if c.want != api.OK && (k != "" || p != 0 || a != (api.Accepted{})) {
			t.Error(c, k, p, a)
		}
	}
	for _, i := range []int{-1 << 63, -1, 16, 1<<63 - 1} {
		if v, is, err := net.Chosen(i); v != "" || is || err != api.ErrArg {
			t.Error(i, v, is, err)
		}
	}
	if v, is, err := net.Chosen(api.MaxIndex); v != "" || is || err != api.OK {
		t.Error(v, is, err)
	}
}

// P9.4: what stations have is shown while they are down.
func TestLookAtWhatIsDown(t *testing.T) {
	net := made(t, 3)
	ok(t, net.Propose(0, 9, "a"))
	settle(t, net)
	for s := range 3 {
		ok(t, net.Crash(s))
		b, _ := net.Promised(s, 9)
		a, _ := net.Accepted(s, 9)
		if b != 3 || a != (api.Accepted{Ballot: 3, Value: "a"}) || known(t, net, s, 9) != "a" {
			t.Error(s, b, a)
		}
	}
	if v, is, _ := net.Chosen(9); v != "a" || !is {
		t.Error(v, is)
	}
}

// P9.4: a value is chosen by a majority that never accepted it at the same time.
func TestChosenAtDifferentTimes(t *testing.T) {
	net := made(t, 5)
	ok(t, net.Propose(1, 0, "a")) // with 1
	for range 8 {
		ok(t, net.Deliver(0))
	}
	for net.Messages()[0].Kind != api.MsgAccept {
		ok(t, net.Drop(0))
	}
	ok(t, net.Deliver(0), net.Deliver(0)) // 0 and 1 accept it with 1
	ok(t, net.Drop(4), net.Drop(3))       // nobody counts
	ok(t, net.Propose(0, 0, "b"))         // with 5; 0, 1 and 2 hear it
	if l := net.Messages(); len(l) != 8 || l[2].Kind != api.MsgAccept || l[2].To != 4 || l[3].To != 0 {
		t.Fatal(l)
	}
	ok(t, net.Drop(7), net.Drop(6), net.Deliver(3), net.Deliver(3), net.Deliver(3))
	ok(t, net.Deliver(3), net.Deliver(3), net.Deliver(3))
	l := net.Messages()
	if len(l) != 8 || l[3] != (api.Message{Kind: api.MsgAccept, To: 0, Ballot: 5, Value: "a"}) {
		t.Fatal(l)
	}
	ok(t, net.Deliver(3), net.Deliver(3)) // 0 and 1 accept it with 5, so no station but these has it with 1 or 5
	if v, is, _ := net.Chosen(0); is {
		t.Fatal("two of five with 1, and two with 5", v)
	}
	ok(t, net.Deliver(1)) // 3 has promised 1, and accepts it
	if v, is, _ := net.Chosen(0); v != "a" || !is {
		t.Error("0, 1 and 3 have accepted it with 1, at one time or another", v, is, shown(net))
	}
}

// P9.4, Rule 3: nets that are nil or zero.
func TestNilAndZero(t *testing.T) {
	for _, net := range []*link.Net{nil, new(link.Net)} {
		for i, err := range []api.Errno{
			net.Propose(-1, -1, ""), net.Deliver(0), net.Drop(0), net.Repeat(0), net.Crash(0), net.Start(0),
		} {
			if err != api.ErrNil {
				t.Error(i, err)
			}
		}
		n, e1 := net.Settle(-1)
		k, e2 := net.Known(-1, -1)
		p, e3 := net.Promised(-1, -1)
		a, e4 := net.Accepted(-1, -1)
		v, is, e5 := net.Chosen(-1)
		up, e6 := net.Up(-1)
		if n != 0 || k != "" || p != 0 || a != (api.Accepted{}) || v != "" || is || up {
			t.Error(n, k, p, a, v, is, up)
		}
		for i, err := range []api.Errno{e1, e2, e3, e4, e5, e6} {
			if err != api.ErrNil {
				t.Error(i, err)
			}
		}
		if len(net.Messages()) != 0 || net.Copy() != nil {
			t.Error(net.Messages(), net.Copy())
		}
	}
}

// P9.4: a copy is a net of its own, with all that the other one has.
func TestCopy(t *testing.T) {
	r := rand.New(rand.NewSource(94))
	for run := range 200 {
		m := moods[run%len(moods)]
		p := newPair(1 + r.Intn(api.MaxStations))
		for range r.Intn(120) {
			p.step(m.step(r, p.model.n, len(p.model.list)))
		}
		q := p.copy()
		if shown(q.net) != shown(p.net) {
			t.Fatal(run, shown(p.net), shown(q.net))
		}
		for range 60 { // each goes its own way
			for _, x := range []*pair{q, p} {
				if got, want := x.step(m.step(r, x.model.n, len(x.model.list))); got != want {
					t.Fatal(run, got, want)
				}
			}
		}
		for _, x := range []*pair{q, p} {
			if d := x.differs() + x.differsInChoice(); d != "" {
				t.Fatal(run, d)
			}
		}
	}
}

// P9.4: what a copy sends is not what the other net sends.
func TestCopySharesNoList(t *testing.T) {
	net := made(t, 3)
	for range 20 {
		ok(t, net.Propose(0, 0, "a"))
		copied := net.Copy()
		ok(t, net.Repeat(0), copied.Repeat(1), net.Repeat(2), copied.Repeat(0))
		for k, x := range []*link.Net{net, copied} {
			l := x.Messages()
			if n := len(l); l[n-2] != l[k] || l[n-1] != l[2-2*k] {
				t.Fatal(k, l)
			}
		}
	}
}

// Rule 4: the list is new memory.
func TestMessagesAreNewMemory(t *testing.T) {
	net := made(t, 3)
	ok(t, net.Propose(0, 0, "a"))
	before := shown(net)
	l := net.Messages()
	for i := range l {
		l[i] = api.Message{Kind: 7, To: 99}
	}
	_ = append(l[:1], l[0])
	if after := shown(net); after != before {
		t.Error(before, after)
	}
	l = net.Messages()
	kept := fmt.Sprint(l)
	settle(t, net)
	if fmt.Sprint(l) != kept {
		t.Error(l, kept)
	}
}

// P2: no goroutine goes on after a call, but for its very end.
func TestGoroutinesAreJoined(t *testing.T) {
	before := runtime.NumGoroutine()
	net := full(t, 400)
	for range 100 {
		net.Deliver(1)
		net.Propose(1, 1, "b")
	}
	for range 1000 {
		if runtime.NumGoroutine() <= before {
			return
		}
		time.Sleep(time.Millisecond)
	}
	t.Error(before, runtime.NumGoroutine())
}

// P2: the same calls have the same results.
func TestSameEachTime(t *testing.T) {
	run := func() string {
		r := rand.New(rand.NewSource(95))
		w := newWitness(5)
		var b strings.Builder
		for range 1000 {
			fmt.Fprint(&b, w.do(moods[0].step(r, 5, len(w.net.Messages()))))
		}
		return b.String() + shown(w.net)
	}
	first := run()
	for _, n := range []int{1, 2, 8} {
		old := runtime.GOMAXPROCS(n)
		if again := run(); again != first {
			t.Error(n)
		}
		runtime.GOMAXPROCS(old)
	}
}
