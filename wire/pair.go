package wire

import "intermede/api"

// maxMoves is the most acts on a pair.
const maxMoves = 1000

// pair is two ends, with what is on its way to each of them.
type pair struct {
	ends [2]*End
	way  [2][]api.Message
	told []api.Event
}

// send puts messages of an end on their way to the other one.
func (p *pair) send(from int, l ...api.Message) {
	p.way[1-from] = append(p.way[1-from], l...)
}

// tell notes the events of an end.
func (p *pair) tell(end int, l []api.Event) {
	for _, event := range l {
		event.End = end
		p.told = append(p.told, event)
	}
}

// act is what is done by a move.
type act struct {
	do func(p *pair, m *api.Move)
}

// acts are what is done by moves of their kinds; what may not be done is left out.
func acts() [7]act {
	return [7]act{
		1: {func(p *pair, m *api.Move) {
			if sent, e := p.ends[m.End].Ask(m.Message); e == api.OK {
				p.send(m.End, sent)
			}
		}},
		2: {(*pair).take},
		3: {(*pair).answer},
		4: {func(p *pair, m *api.Move) {
			if sent, e := p.ends[m.End].Cancel(m.Number); e == api.OK {
				p.send(m.End, sent)
			}
		}},
		5: {func(p *pair, m *api.Move) {
			sent, _ := p.ends[m.End].Close()
			p.send(m.End, sent...)
		}},
		6: {func(p *pair, m *api.Move) {
			p.way = [2][]api.Message{}
			for i, end := range p.ends {
				told, _ := end.Break()
				p.tell(i, told)
			}
		}},
	}
}

// take lets an end take the oldest message on its way to it; one that it refuses stays there.
func (p *pair) take(m *api.Move) {
	if len(p.way[m.End]) == 0 {
		return
	}
	told, sent, e := p.ends[m.End].Take(p.way[m.End][0])
	if e != api.OK {
		return
	}
	p.way[m.End] = p.way[m.End][1:]
	p.tell(m.End, told)
	p.send(m.End, sent...)
}

func (p *pair) answer(m *api.Move) {
	served := p.ends[m.End].Served()
	if len(served) == 0 {
		return
	}
	answer := m.Message
	answer.Number = served[0]
	sent, _ := p.ends[m.End].Answer(answer)
	p.send(m.End, sent...)
}

// Pair does acts on two ends of a connection.
func Pair(a, b *End, moves []api.Move) (api.Talk, api.Errno) {
	if a == nil || b == nil || !a.opener || b.opener || len(moves) > maxMoves {
		return api.Talk{}, api.ErrInvalid
	}
	for _, m := range moves {
		if m.Kind < 1 || m.Kind >= len(acts()) || m.End < 0 || m.End > 1 {
			return api.Talk{}, api.ErrInvalid
		}
	}
	p := &pair{ends: [2]*End{a, b}}
	for i := range moves {
		acts()[moves[i].Kind].do(p, &moves[i])
	}
	return api.Talk{Events: p.told, Left: [2]int{len(p.way[0]), len(p.way[1])}}, api.OK
}
