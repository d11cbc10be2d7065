package sync

import "waystone/packet"

// database is a Database packet that came: the greater number of both leads, the other one answers.
func (n *Neighbor) database(e Event) []Do {
	switch {
	case n.State < ExStart:
		return nil
	case n.State == ExStart:
		return n.start(e)
	case n.State == Exchange:
		return n.exchange(e)
	}
	return n.repeat(e)
}

// start finds who leads.
func (n *Neighbor) start(e Event) []Do {
	switch {
	case e.Flags == flagsAnew && len(e.Heads) == 0 && n.Id > n.Me:
		n.State, n.Seq = Exchange, e.Seq
		return []Do{n.tell(0, true)}
	case e.Flags&(packet.Init|packet.Master) == 0 && e.Seq == n.Seq && n.Id < n.Me:
		n.State = Exchange
		n.Want = join(n.Want, newer(e.Heads, e.Own))
		n.Seq++
		return []Do{n.tell(packet.Master, true)}
	}
	return nil
}

// exchange takes what comes next, or what came last once more.
func (n *Neighbor) exchange(e Event) []Do {
	led := n.Id > n.Me
	switch {
	case led && e.Flags == flagsAnew && e.Seq == n.Seq:
		return []Do{n.tell(0, true)}
	case led && e.Flags == packet.Master && e.Seq == n.Seq+1:
		n.Want = join(n.Want, newer(e.Heads, e.Own))
		n.Seq = e.Seq
		return append([]Do{n.tell(0, false)}, n.endExchange()...)
	case !led && e.Flags == 0 && e.Seq == n.Seq:
		return n.endExchange()
	}
	return n.beginAnew(e.Again)
}

// repeat answers what came last once more: behind the exchange nothing else may come.
func (n *Neighbor) repeat(e Event) []Do {
	led := n.Id > n.Me
	switch {
	case led && e.Flags == packet.Master && e.Seq == n.Seq:
		return []Do{n.tell(0, false)}
	case !led && e.Flags == 0 && e.Seq == n.Seq:
		return nil
	}
	return n.beginAnew(e.Again)
}

func (n *Neighbor) endExchange() []Do {
	if len(n.Want) == 0 {
		n.State = Full
		return nil
	}
	n.State = Loading
	return []Do{n.request()}
}
