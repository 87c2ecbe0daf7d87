package event

import (
	"iter"
	"slices"
	"strconv"
	"strings"

	"intermede/api"
)

// counts tell what became of events.
type counts struct{ taken, given, dropped, stale int }

// consumer takes events in, and is given them.
type consumer struct {
	counts
	number  int
	push    bool
	filter  []api.Test
	quality api.Quality
	queue   queue
}

// Channel has consumers.
type Channel struct {
	now, last int
	consumers []*consumer // in the order of their numbers
}

// New returns a channel.
func New() *Channel { return &Channel{} }

// Join adds a consumer.
func (c *Channel) Join(push bool, l []api.Test, q api.Quality) (int, api.Errno) {
	if c == nil || !validFilter(l) || !validQuality(q) {
		return 0, api.ErrInvalid
	}
	if len(c.consumers) >= maxConsumers {
		return 0, api.ErrLimit
	}
	c.last++
	x := &consumer{number: c.last, push: push, filter: cloneFilter(l), quality: q}
	x.queue.order(q.Order)
	c.consumers = append(c.consumers, x)
	return c.last, api.OK
}

// find returns the consumer with a number, and its index.
func (c *Channel) find(number int) (*consumer, int, api.Errno) {
	switch {
	case c == nil:
		return nil, 0, api.ErrInvalid
	case number < 0:
		return nil, 0, api.ErrRange
	}
	i, there := slices.BinarySearchFunc(c.consumers, number, func(x *consumer, number int) int { return x.number - number })
	if !there {
		return nil, 0, api.ErrNone
	}
	return c.consumers[i], i, api.OK
}

// Leave takes a consumer away, and returns how many events were in its queue.
func (c *Channel) Leave(consumer int) (int, api.Errno) {
	x, i, e := c.find(consumer)
	if e != api.OK {
		return 0, e
	}
	c.consumers = slices.Delete(c.consumers, i, i+1)
	return x.queue.Len(), api.OK
}

// Set changes a consumer's settings, and returns how many events go for want of room.
func (c *Channel) Set(consumer int, q api.Quality) (int, api.Errno) {
	if !validQuality(q) {
		return 0, api.ErrInvalid
	}
	x, _, e := c.find(consumer)
	if e != api.OK {
		return 0, e
	}
	x.quality = q
	x.queue.order(q.Order)
	goes := max(0, x.queue.Len()-q.Most)
	for range goes {
		x.queue.drop(q.Discard)
	}
	x.dropped += goes
	return goes, api.OK
}

// Filter changes a consumer's filter.
func (c *Channel) Filter(consumer int, l []api.Test) api.Errno {
	if !validFilter(l) {
		return api.ErrInvalid
	}
	x, _, e := c.find(consumer)
	if e != api.OK {
		return e
	}
	x.filter = cloneFilter(l)
	return api.OK
}

// Pause pauses a consumer, or lets it go on.
func (c *Channel) Pause(consumer int, paused bool) api.Errno {
	x, _, e := c.find(consumer)
	if e != api.OK {
		return e
	}
	x.quality.Paused = paused
	return api.OK
}

// passing goes through the consumers whose filters an event passes.
func (c *Channel) passing(h api.Happening) iter.Seq[*consumer] {
	return func(yield func(*consumer) bool) {
		for _, x := range c.consumers {
			if passes(x.filter, h) && !yield(x) {
				return
			}
		}
	}
}

func (x *consumer) isFull() bool { return x.queue.Len() >= x.quality.Most }

// take takes an event in; another one may go for it, or the event itself.
func (x *consumer) take(h api.Happening) {
	x.taken++
	full := x.isFull()
	x.queue.add(h)
	if full {
		x.dropped++
		x.queue.drop(x.quality.Discard)
	}
}

// Supply puts an event into queues, and returns how many took it in.
func (c *Channel) Supply(h api.Happening) (int, api.Errno) {
	switch {
	case c == nil || !ValidHappening(h):
		return 0, api.ErrInvalid
	case isStale(h, c.now):
		return 0, api.ErrLate
	}
	for x := range c.passing(h) {
		if x.quality.Discard == refused && x.isFull() {
			return 0, api.ErrState
		}
	}
	n := 0
	for x := range c.passing(h) {
		x.take(clone(h))
		n++
	}
	return n, api.OK
}

// give gives the first event of the order.
func (x *consumer) give() api.Happening {
	x.given++
	return x.queue.take()
}

// Push gives events to the consumers that are pushed to, by turns.
func (c *Channel) Push(most int) ([]api.Given, api.Errno) {
	switch {
	case c == nil:
		return nil, api.ErrInvalid
	case most < 0 || most > maxPush:
		return nil, api.ErrRange
	}
	var l []api.Given
	for before := -1; before < len(l); {
		before = len(l)
		for _, x := range c.consumers {
			if x.push && !x.quality.Paused && x.queue.Len() > 0 && len(l) < most {
				l = append(l, api.Given{Consumer: x.number, Happening: x.give()})
			}
		}
	}
	return l, api.OK
}

// pulled returns a consumer that pulls, and may.
func (c *Channel) pulled(number int) (*consumer, api.Errno) {
	x, _, e := c.find(number)
	switch {
	case e != api.OK:
		return nil, e
	case x.push:
		return nil, api.ErrKind
	case x.quality.Paused:
		return nil, api.ErrState
	}
	return x, api.OK
}

// Pull gives the first event to a consumer that pulls.
func (c *Channel) Pull(consumer int) (api.Happening, api.Errno) {
	x, e := c.pulled(consumer)
	switch {
	case e != api.OK:
		return api.Happening{}, e
	case x.queue.Len() == 0:
		return api.Happening{}, api.ErrNone
	}
	return x.give(), api.OK
}

// Clock sets the clock, and returns how many events went stale.
func (c *Channel) Clock(time int) (int, api.Errno) {
	switch {
	case c == nil:
		return 0, api.ErrInvalid
	case time < c.now || time > api.MaxTime:
		return 0, api.ErrRange
	}
	c.now = time
	all := 0
	for _, x := range c.consumers {
		n := x.queue.clear(time)
		x.stale += n
		all += n
	}
	return all, api.OK
}

// Now returns the clock.
func (c *Channel) Now() int {
	if c == nil {
		return 0
	}
	return c.now
}

// Queue returns the events of a queue, in its order.
func (c *Channel) Queue(consumer int) ([]api.Happening, api.Errno) {
	x, _, e := c.find(consumer)
	if e != api.OK {
		return nil, e
	}
	return x.queue.sorted(x.queue.first), api.OK
}

// Consumers returns the numbers of the consumers.
func (c *Channel) Consumers() []int {
	if c == nil {
		return nil
	}
	var l []int
	for _, x := range c.consumers {
		l = append(l, x.number)
	}
	return l
}

// Counts returns what became of a consumer's events.
func (c *Channel) Counts(consumer int) (taken, given, dropped, stale int, e api.Errno) {
	x, _, e := c.find(consumer)
	if e != api.OK {
		return 0, 0, 0, 0, e
	}
	return x.taken, x.given, x.dropped, x.stale, api.OK
}

// Chain gives what a consumer has to another channel, and returns how many events were supplied.
func Chain(l []*Channel, from, consumer, to int) (int, api.Errno) {
	switch {
	case slices.Contains(l, nil):
		return 0, api.ErrInvalid
	case from < 0 || from >= len(l) || to < 0 || to >= len(l):
		return 0, api.ErrRange
	}
	x, e := l[from].pulled(consumer)
	if e != api.OK {
		return 0, e
	}
	n := 0
	// A channel may be chained to itself: what comes back is not given again and again.
	for range x.queue.Len() {
		if _, e := l[to].Supply(x.give()); e != api.OK {
			break
		}
		n++
	}
	return n, api.OK
}

// line writes numbers and texts behind a word.
func line(b *strings.Builder, word string, l ...any) {
	b.WriteString(word)
	for _, x := range l {
		b.WriteByte(' ')
		switch x := x.(type) {
		case int:
			b.WriteString(strconv.Itoa(x))
		case bool:
			b.WriteString(strconv.FormatBool(x))
		case string:
			b.WriteString(strconv.Quote(x))
		}
	}
	b.WriteByte('\n')
}

// Text returns all that a channel is.
func (c *Channel) Text() string {
	if c == nil {
		return ""
	}
	var b strings.Builder
	line(&b, "channel", c.now, c.last)
	for _, x := range c.consumers {
		q := x.quality
		line(&b, "consumer", x.number, x.push, q.Order, q.Most, q.Discard, q.Paused)
		line(&b, "counts", x.taken, x.given, x.dropped, x.stale)
		for _, t := range x.filter {
			line(&b, "test", t.Field, t.Op, t.Prop.Name, t.Prop.Kind, t.Prop.N, t.Prop.S)
		}
		for _, h := range x.queue.sorted(by(firstIn)) {
			line(&b, "event", h.Type, h.Priority, h.Until)
			for _, p := range h.Fields {
				line(&b, "field", p.Name, p.Kind, p.N, p.S)
			}
		}
	}
	return b.String()
}
