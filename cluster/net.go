package cluster

import (
	"bytes"
	"slices"

	"strata/api"
)

// Tick is one tick at a node.
func (x *Cluster) Tick(node, draw int) api.Errno {
	l, err := x.replicas(node)
	if err != api.OK {
		return err
	}
	first := api.OK
	for tablet, r := range l {
		out, err := r.Tick(draw)
		x.send(tablet, out...)
		if first == api.OK {
			first = err
		}
	}
	return first
}

// send puts messages behind what is under way, or loses them.
func (x *Cluster) send(tablet int, l ...api.Message) {
	for _, m := range l {
		if x.hasRoom(m.To) {
			x.way = append(x.way, api.Packet{Tablet: tablet, Message: m})
		}
	}
}

// hasRoom tells whether one more packet may be under way to a peer.
func (x *Cluster) hasRoom(peer int) bool {
	if _, on := x.on[nodeOf(peer)]; !on {
		return false
	}
	count := 0
	for _, p := range x.way {
		if p.Message.To == peer {
			count++
		}
	}
	return count < api.MaxPackets
}

// Packets tells what is under way.
func (x *Cluster) Packets() []api.Packet {
	out := make([]api.Packet, len(x.way))
	for i, p := range x.way {
		out[i] = copyOf(p)
	}
	return out
}

// copyOf shares no memory with the packet.
func copyOf(p api.Packet) api.Packet {
	p.Message.Data = bytes.Clone(p.Message.Data)
	p.Message.Raft.Entries = slices.Clone(p.Message.Raft.Entries)
	for i, e := range p.Message.Raft.Entries {
		p.Message.Raft.Entries[i].Data = bytes.Clone(e.Data)
	}
	return p
}

// Deliver lets a packet come.
func (x *Cluster) Deliver(i, draw int) api.Errno {
	p, err := x.take(i)
	if err != api.OK {
		return err
	}
	l, on := x.on[nodeOf(p.Message.To)]
	if !on {
		return api.OK
	}
	out, err := l[p.Tablet].Receive(p.Message, draw)
	x.send(p.Tablet, out...)
	return err
}

// Drop loses a packet.
func (x *Cluster) Drop(i int) api.Errno {
	_, err := x.take(i)
	return err
}

// Double doubles a packet.
func (x *Cluster) Double(i int) api.Errno {
	p, err := x.packet(i)
	if err != api.OK {
		return err
	}
	// The two may share memory: whoever receives one changes nothing of it, and what is told is copied.
	x.send(p.Tablet, p.Message)
	return api.OK
}

func (x *Cluster) packet(i int) (api.Packet, api.Errno) {
	if !within(i, 0, len(x.way)-1) {
		return api.Packet{}, api.ErrPacket
	}
	return x.way[i], api.OK
}

// take takes a packet out.
func (x *Cluster) take(i int) (api.Packet, api.Errno) {
	p, err := x.packet(i)
	if err == api.OK {
		x.way = slices.Delete(x.way, i, i+1)
	}
	return p, err
}
