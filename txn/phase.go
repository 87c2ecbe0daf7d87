package txn

import (
	"slices"
	"strconv"

	"intermede/api"
)

// phases are what a transaction passes, one after the other, when it is completed: each tells the orders that it gives.
func phases() [5]func(*Manager, *txn) {
	return [...]func(*Manager, *txn){(*Manager).begins, (*Manager).asks, (*Manager).decides, (*Manager).forgets, (*Manager).ends}
}

// decided is the phase behind the decision.
const decided = 3

// advance goes on until an order is due, or nothing is left.
func (m *Manager) advance() {
	all := phases()
	for len(m.queue) > 0 && len(m.queue[0].todo) == 0 {
		t := m.queue[0]
		if t.phase == len(all) {
			m.queue = slices.Delete(m.queue, 0, 1)
			continue
		}
		all[t.phase](m, t)
		t.phase++
	}
}

// order gives an order to a name.
func (t *txn) order(kind int, name string, answers int, told func(answer int)) {
	t.todo = append(t.todo, due{api.Order{Txn: t.number, Kind: kind, Name: name}, answers, told})
}

// fails turns a transaction back: what was to be done is not.
func (t *txn) fails() { t.state, t.todo = rolling, nil }

// begins asks the synchronisations of what is to be committed.
func (m *Manager) begins(t *txn) {
	if t.state != preparing {
		return
	}
	for _, name := range t.watchers {
		t.order(before, name, 2, func(answer int) {
			if answer == no {
				t.fails()
			}
		})
	}
}

// asks asks the resources for their votes, or the only one to commit.
func (m *Manager) asks(t *txn) {
	switch {
	case t.state != preparing:
	case len(t.resources) == 1:
		t.order(one, t.resources[0], still, func(answer int) {
			// It has had its order, so that it gets neither commit nor roll back.
			t.votes[0] = readOnly
			t.ending.Mixed = answer == mixed
			t.ending.Hazard = answer == hazard || answer == still
			if answer != still {
				t.answers[0] = answer
			}
			if answer == other {
				t.fails()
			}
		})
	default:
		for i, name := range t.resources {
			t.order(prepare, name, silence, func(answer int) {
				t.votes[i] = answer
				if answer == no || answer == silence {
					t.fails()
				}
			})
		}
	}
}

// decides forces the line of what is committed, and gives the orders of the decision.
func (m *Manager) decides(t *txn) {
	if t.state == rolling {
		t.orderAll(rollBack)
		return
	}
	words := []string{"commit", strconv.Itoa(t.number)}
	for i, name := range t.resources {
		if t.votes[i] == yes {
			words = append(words, name)
		}
	}
	if len(words) > 2 {
		m.force(words...)
		t.state = committing
		t.orderAll(commit)
	}
}

// orderAll orders the decision to all that wait for it: those that were not asked or did not answer only wait to be rolled back.
func (t *txn) orderAll(kind int) {
	for i, name := range t.resources {
		if vote := t.votes[i]; vote == no || vote == readOnly || kind == commit && vote != yes {
			continue
		}
		t.insist(kind, name, still, func(answer int) {
			t.answers[i] = answer
			t.ending.Mixed = t.ending.Mixed || answer == other || answer == mixed
			t.ending.Hazard = t.ending.Hazard || answer == hazard
		})
	}
}

// insist gives an order again and again, behind the others of its kind, till it is answered; the last answer is silence.
func (t *txn) insist(kind int, name string, answers int, told func(answer int)) {
	silences := 0
	var hear func(answer int)
	hear = func(answer int) {
		if answer != answers {
			told(answer)
			return
		}
		silences++
		if silences < maxSilences {
			t.order(kind, name, answers, hear)
		} else {
			t.ending.Doubt = append(t.ending.Doubt, name)
		}
	}
	t.order(kind, name, answers, hear)
}

// forgets lets resources forget what they decided by themselves.
func (m *Manager) forgets(t *txn) {
	for i, name := range t.resources {
		if answer := t.answers[i]; answer >= other && answer <= hazard {
			t.insist(forget, name, 2, func(int) {})
		}
	}
}

// ends ends a transaction, and tells its synchronisations.
func (m *Manager) ends(t *txn) {
	switch {
	case t.state == rolling:
		t.state = rolledBack
	default:
		if t.state == committing && len(t.ending.Doubt) == 0 {
			m.force("end", strconv.Itoa(t.number))
		}
		t.state = committed
	}
	for _, name := range t.watchers {
		t.order(after, name, 1, func(int) {})
	}
}
