package cluster_test

import (
	"bytes"
	"fmt"

	"strata/api"
	"strata/order"
	"strata/wire"
)

// client counts in a row of its own, under a session, and sends each serial again and again till it is answered, and sometimes behind that.
type client struct {
	tablet  int
	row     []byte
	session int
	serial  int    // the one that is being sent
	reply   []byte // of the last answered serial
	done    int    // serials that were answered as held
	unsure  int    // serials that were sent, and whose session has ended since
}

func newClient(w *world, i int) *client {
	c := &client{tablet: i / 2}
	c.row = []byte("a")
	if c.tablet > 0 {
		c.row = bytes.Clone(w.c.Splits[c.tablet-1])
	}
	c.row = fmt.Append(c.row, "-counter-", i)
	return c
}

// command is what the client sends next, and its serial.
func (c *client) command(again bool) (api.Command, int) {
	if c.session == 0 {
		return api.Command{Kind: api.MOpen}, 0
	}
	serial := c.serial
	if again {
		serial--
	}
	return api.Command{Kind: api.MMutate, Client: c.session, Serial: serial, Row: c.row, Ops: []api.Op{{Kind: api.OAdd, Qual: []byte("n"), Delta: 1}}}, serial
}

func (c *client) send(w *world) {
	w.t.Helper()
	node := w.leader(c.tablet)
	if node < 0 {
		return
	}
	k, serial := c.command(c.session > 0 && c.serial > 1 && w.r.Intn(4) == 0)
	_, _, err := w.propose("Propose", node, c.tablet, k, c, serial)
	if err != api.OK && !isOff(err) {
		w.fail(node, c.tablet, "Propose: %d", err)
	}
}

// hear: W3: a serial is answered as the first time, however often it was sent; it is done once.
func (c *client) hear(w *world, o offer, a api.Answered, own bool) {
	w.t.Helper()
	if !own {
		return
	}
	r, err := order.DecodeReply(a.Reply)
	mustErr(w.t, "DecodeReply", err, api.OK)
	if o.what == 0 {
		if c.session == 0 && r.Err == api.OK {
			c.session, c.serial, c.reply = r.Value, 1, nil
			w.count["session"]++
		}
		return
	}
	// Of which session it was the log says.
	k, err := order.Decode(schema, w.histories[c.tablet].moments[a.Index].entry.Data)
	mustErr(w.t, "Decode", err, api.OK)
	switch {
	case k.Client != c.session:
	case r.Err == api.ErrSession:
		c.session = 0
		c.unsure++
		w.count["session ended"]++
	case r.Err == api.ErrSerial:
		if k.Serial == c.serial {
			w.fail(-1, c.tablet, "the serial %d, which was not answered yet, is refused", k.Serial)
		}
	case r.Err != api.OK || !r.Held:
		w.fail(-1, c.tablet, "the serial %d is answered %+v", k.Serial, r)
	case k.Serial == c.serial:
		c.reply = a.Reply
		c.done++
		c.serial++
		// The count is that of all that were done, and maybe of some of which nobody knows.
		if r.Value < c.done || r.Value > c.done+c.unsure {
			w.fail(-1, c.tablet, "the count is %d, %d were done and maybe %d more", r.Value, c.done, c.unsure)
		}
		w.count["serial"]++
	case k.Serial == c.serial-1:
		if !bytes.Equal(a.Reply, c.reply) {
			w.fail(-1, c.tablet, "the serial %d is answered otherwise than the first time", k.Serial)
		}
		w.count["serial once more"]++
	}
}

// atEnd: what the row says at a node that has applied all.
func (c *client) atEnd(w *world, node int) {
	w.t.Helper()
	p, err := w.x.Query(node, c.tablet, api.Query{From: c.row, To: append(bytes.Clone(c.row), 0), N: 1, Rows: 1})
	if err == api.ErrDown {
		return
	}
	mustErr(w.t, "Query", err, api.OK)
	got := 0
	if len(p.Rows) > 0 {
		n, _, err := wire.ReadRising(p.Rows[0].Cells[0].Value, 0)
		mustErr(w.t, "ReadRising", err, api.OK)
		got = n
	}
	// The serial that is being sent may be done, too.
	if got < c.done || got > c.done+c.unsure+1 {
		w.fail(node, c.tablet, "the count is %d, %d were done and maybe %d more", got, c.done, c.unsure+1)
	}
}
