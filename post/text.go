package post

import (
	"slices"
	"strconv"
	"strings"

	"intermede/api"
)

// numbers writes numbers, each with a blank behind it.
func numbers(l ...int) string {
	s := ""
	for _, n := range l {
		s += strconv.Itoa(n) + " "
	}
	return s
}

func flag(b bool) int {
	if b {
		return 1
	}
	return 0
}

// Text returns all of a post: its settings and counts in a line, then each letter in one.
func (p *Post) Text() string {
	if p == nil {
		return ""
	}
	var b strings.Builder
	b.WriteString(numbers(p.order, p.room, p.pause, p.now, p.put, p.answered, p.given, p.late, p.withdrawn) + "\n")
	for n := 1; n <= p.put; n++ {
		if l := p.letters[n]; l != nil {
			b.WriteString(numbers(n, l.state, l.tried, l.ready, flag(l.taken), l.Priority, l.Until, l.Tries, flag(l.Back)))
			for _, s := range []string{l.Target, l.Body, l.reply} {
				b.WriteString(strconv.Quote(s) + " ")
			}
			b.WriteString("\n")
		}
	}
	return b.String()
}

// line is a line of a text that is read; ok is false behind what is wrong.
type line struct {
	s  string
	ok bool
}

func (l *line) number() int {
	word, rest, found := strings.Cut(l.s, " ")
	n, err := strconv.Atoi(word)
	l.ok = l.ok && found && err == nil && n >= 0
	l.s = rest
	return n
}

func (l *line) quoted() string {
	word, err := strconv.QuotedPrefix(l.s)
	s, err2 := strconv.Unquote(word)
	l.ok = l.ok && err == nil && err2 == nil
	l.s = strings.TrimPrefix(l.s[len(word):], " ")
	return s
}

func (l *line) letter() *letter {
	x := &letter{}
	for _, n := range []*int{&x.number, &x.state, &x.tried, &x.ready} {
		*n = l.number()
	}
	x.taken = l.number() == 1
	x.Priority = l.number()
	x.Until = l.number()
	x.Tries = l.number()
	x.Back = l.number() == 1
	x.Target = l.quoted()
	x.Body = l.quoted()
	x.reply = l.quoted()
	l.ok = l.ok && ValidLetter(x.Letter) && within(x.state, waiting, tooLate) && x.tried <= x.Tries && len(x.reply) <= maxText
	return x
}

// Restore goes on from a text.
func (p *Post) Restore(text string) api.Errno {
	if p == nil {
		return api.ErrInvalid
	}
	lines := strings.SplitAfter(text, "\n")
	head := &line{lines[0], true}
	order := head.number()
	room := head.number()
	q, e := New(order, room, head.number())
	if e != api.OK || !head.ok {
		return api.ErrSyntax
	}
	for _, n := range []*int{&q.now, &q.put, &q.answered, &q.given, &q.late, &q.withdrawn} {
		*n = head.number()
	}
	last := 0
	for _, s := range lines[1:] {
		if s == "" {
			continue
		}
		l := &line{s, true}
		x := l.letter()
		if !l.ok || x.number <= last || x.number > q.put {
			return api.ErrSyntax
		}
		last = x.number
		q.letters[x.number] = x
		if x.state <= underWay {
			q.active = append(q.active, x.number)
		} else if x.Back && !x.taken {
			q.backs = append(q.backs, x.number)
		}
	}
	// What is written otherwise, and what does not add up, is no text of a post.
	if q.now > api.MaxTime || len(q.active) > q.room || !q.addsUp() || q.Text() != text {
		return api.ErrSyntax
	}
	*p = *q
	return api.OK
}

// addsUp reports whether counts are those of the letters.
func (p *Post) addsUp() bool {
	var counts [tooLate + 1]int
	for _, l := range p.letters {
		counts[l.state]++
	}
	return slices.Equal(counts[answered:], []int{p.answered, p.given, p.late}) && p.put == len(p.letters)+p.withdrawn
}
