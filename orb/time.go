package orb

import (
	"iter"

	"intermede/api"
	"intermede/body"
)

// due returns when a call is sent again or given up next (0: never).
func (w *wait) due() int {
	switch {
	case w.again == 0:
		return w.until
	case w.until == 0:
		return w.again
	}
	return min(w.again, w.until)
}

// next returns the time of the next moment at which something happens.
func (o *Orb) next() (int, bool) {
	time, e := o.net.Next()
	there := e == api.OK
	for _, h := range o.hosts {
		for _, w := range h.waits {
			if due := w.due(); due > 0 && (!there || due < time) {
				time, there = due, true
			}
		}
	}
	return time, there
}

// moments goes through the moments up to a time.
func (o *Orb) moments(until int) iter.Seq[int] {
	return func(yield func(int) bool) {
		for {
			time, there := o.next()
			if !there || time > until || !yield(time) {
				return
			}
		}
	}
}

// arrive lets packets arrive up to a time, also those that are sent at it without delay.
func (o *Orb) arrive(time int) {
	for {
		l, e := o.net.Pass(time)
		if e != api.OK || len(l) == 0 {
			return
		}
		for _, p := range l {
			o.hosts[p.To].receive(p)
		}
	}
}

// expire gives up and sends again what is due at a host.
func (h *host) expire(time int) {
	for _, w := range h.waiting() {
		switch {
		case h.waits[w.number] != w:
		case w.until > 0 && w.until <= time:
			h.told(w.number, body.System("time", api.DoneMaybe))
		case w.again > 0 && w.again <= time:
			h.ask(w)
		}
	}
}

// Pass lets the time go on.
func (o *Orb) Pass(time int) api.Errno {
	switch {
	case o == nil || o.net == nil:
		return api.ErrInvalid
	case time < o.net.Now() || time > api.MaxTime:
		return api.ErrRange
	}
	for now := range o.moments(time) {
		o.arrive(now)
		for _, h := range o.hosts {
			h.expire(now)
		}
		o.arrive(now)
	}
	o.arrive(time)
	return api.OK
}
