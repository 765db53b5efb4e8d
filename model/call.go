package model

import (
	"strings"

	"philtre/api"
	"philtre/batch"
	"philtre/inbox"
	"philtre/opcode"
	"philtre/state"
)

// way is how a call is done: what it is answered, and what changes.
type way func(*Model, api.Call) (api.Reply, []api.Change)

// Do does a call, and tells what changes.
func (m *Model) Do(c api.Call) (api.Reply, []api.Change) {
	if !m.made() {
		return api.Reply{}, nil
	}
	return wayOf(c.Kind)(m, c)
}

// wayOf is how calls of a kind are done.
func wayOf(kind int) way {
	switch kind {
	case api.Mutate:
		return (*Model).mutate
	case api.Read:
		return (*Model).read
	case api.Snapshot:
		return (*Model).snapshot
	case api.Rebase:
		return (*Model).rebase
	case api.Watch:
		return (*Model).watch
	case api.Poll:
		return (*Model).poll
	case api.Unwatch:
		return (*Model).unwatch
	case api.Resync:
		return (*Model).resync
	case api.Collect:
		return (*Model).collect
	}
	return (*Model).unknown
}

func (m *Model) mutate(c api.Call) (api.Reply, []api.Change) {
	o, err := opcode.Parse(c.Text)
	if err != nil {
		return refused(api.BadOp)
	}
	return m.Enter(o)
}

func (m *Model) read(c api.Call) (api.Reply, []api.Change) {
	value, has := state.Get(m.state, c.Text)
	return api.Reply{Took: has, Value: value}, nil
}

func (m *Model) snapshot(api.Call) (api.Reply, []api.Change) {
	return api.Reply{Pairs: m.State()}, nil
}

func (m *Model) rebase(c api.Call) (api.Reply, []api.Change) {
	l, err := batch.Parse(c.Text)
	if err != nil {
		return refused(api.BadBatch)
	}
	return m.Merge(c.Start, l)
}

func (m *Model) watch(c api.Call) (api.Reply, []api.Change) {
	if len(m.watchers) >= min(m.config.Watchers, api.MaxWatchers) {
		return refused(api.TooManyWatchers)
	}
	m.numbered++
	// Cloned, since a prefix that is a piece of a longer text would keep all of it.
	m.watchers[m.numbered] = &watcher{strings.Clone(c.Text), inbox.New(m.config.Queue)}
	return api.Reply{N: m.numbered}, nil
}

func (m *Model) poll(c api.Call) (api.Reply, []api.Change) {
	w, is := m.watchers[c.N]
	if !is {
		return refused(api.NoWatcher)
	}
	taken, whole := w.box.Take(c.Start)
	if !whole {
		return refused(api.Overflow)
	}
	return api.Reply{Changes: taken}, nil
}

func (m *Model) unwatch(c api.Call) (api.Reply, []api.Change) {
	if _, is := m.watchers[c.N]; !is {
		return refused(api.NoWatcher)
	}
	delete(m.watchers, c.N)
	return api.Reply{}, nil
}

func (m *Model) resync(c api.Call) (api.Reply, []api.Change) {
	w, is := m.watchers[c.N]
	if !is {
		return refused(api.NoWatcher)
	}
	w.box.Empty()
	var pairs []api.Pair
	for _, p := range m.state {
		if w.watches(p.Key) {
			pairs = append(pairs, p)
		}
	}
	return api.Reply{Pairs: pairs}, nil
}

// collect has nothing to do: a model keeps no old versions.
func (m *Model) collect(api.Call) (api.Reply, []api.Change) {
	return api.Reply{}, nil
}

func (m *Model) unknown(api.Call) (api.Reply, []api.Change) {
	return refused(api.BadOp)
}
