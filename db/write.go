package db

import (
	"iter"

	"tickler/api"
	"tickler/edit"
	"tickler/merge"
	"tickler/pick"
	"tickler/skip"
	"tickler/wal"
)

// Write: the store with the changes, made together. The draws tell how high their versions stand in the list.
func Write(s State, l []api.Change, draws []uint64) (State, []api.Act, api.Errno) {
	if e := Check(s); e != api.OK {
		return State{}, nil, e
	}
	b := wal.Batch{Seq: s.Seq + 1, Changes: l}
	record, e := wal.Add(nil, b)
	if e != api.OK {
		return State{}, nil, e
	}
	if len(s.Mem.Nodes)+len(l) > api.MaxEntries {
		return State{}, nil, api.ErrFull
	}
	c := begun(s)
	log := c.name(logKind, c.Log)
	c.do(
		api.Act{What: toAppend, Name: log, Data: record},
		api.Act{What: toSync, Name: log},
	)
	c.put(b, draws)
	return c.told()
}

// put puts the versions of b into the list.
func (c *call) put(b wal.Batch, draws []uint64) {
	versions, e := wal.Entries(b)
	c.refuse(e)
	for i, x := range versions {
		height := 1
		if i < len(draws) {
			height = skip.Height(draws[i])
		}
		c.Mem, e = skip.Put(c.Mem, x, height)
		c.refuse(e)
	}
	c.Seq += len(versions)
}

// Flush: the store with an empty list: what lay there lies in a table.
func Flush(s State) (State, []api.Act, api.Errno) {
	if e := Check(s); e != api.OK {
		return State{}, nil, e
	}
	c := begun(s)
	if len(c.Mem.Nodes) > 0 {
		c.flush()
	}
	return c.told()
}

// flush makes the list a table. The old logs go last of all: up to the note what is not in a table yet is replayed of them.
func (c *call) flush() {
	all, e := skip.All(c.Mem)
	c.refuse(e)
	left, e := merge.Thin(all, c.Snaps, false)
	c.refuse(e)
	laid := c.layTables(0, parts(left))
	old := c.numbers(logKind)
	c.beginLog(c.unused(logKind))
	c.do(api.Act{What: toSyncNames})
	c.note(c.editOf(laid, nil, c.Seq))
	c.letGo(logKind, old)
	c.Mem = skip.New()
}

// letGo removes the files of that kind and these numbers, so that it lasts.
func (c *call) letGo(kind byte, ids []int) {
	var names []string
	for _, id := range ids {
		names = append(names, c.name(kind, id))
	}
	c.remove(names...)
	c.do(api.Act{What: toSyncNames})
}

// Compact: the store with the tables merged that are next, if a level is full; else the store as it is.
func Compact(s State) (State, bool, []api.Act, api.Errno) {
	if e := Check(s); e != api.OK {
		return State{}, false, nil, e
	}
	plan, full, e := pick.Choose(s.Version)
	if e != api.OK {
		return State{}, false, nil, e
	}
	c := begun(s)
	if full {
		c.compact(plan)
	}
	next, acts, e := c.told()
	return next, full && e == api.OK, acts, e
}

// compact merges the inputs of the plan. They go last of all: up to the note the version names them.
func (c *call) compact(plan pick.Plan) {
	all, e := merge.Merge(c.inputs(plan.Inputs))
	c.refuse(e)
	left, e := merge.Thin(all, c.Snaps, plan.Bottom)
	c.refuse(e)
	laid := c.layTables(plan.Level+1, parts(left))
	c.do(api.Act{What: toSyncNames})
	// What is in the log alone is in no table yet: the last number in them is the same.
	c.note(c.editOf(laid, plan.Inputs, c.Version.Seq))
	c.letGo(tableKind, plan.Inputs)
}

// inputs: the versions of the tables with these ids.
func (c *call) inputs(ids []int) [][]api.Entry {
	metas := map[int]edit.Meta{}
	for _, m := range c.Version.Tables {
		metas[m.ID] = m
	}
	var runs [][]api.Entry
	for _, id := range ids {
		l, e := tableOf(c.Files, id)
		c.refuse(e)
		if e == api.OK && !within(l, metas[id]) {
			c.refuse(api.ErrCorrupt)
		}
		runs = append(runs, l)
	}
	return runs
}

// within: are all keys of a table's versions where its meta tells them? By that alone it was chosen.
func within(l []api.Entry, m edit.Meta) bool {
	return m.Low <= l[0].Key && l[len(l)-1].Key <= m.High
}

// parts hands out l, which was thinned, as tables take it, no two with a key in common.
func parts(l []api.Entry) iter.Seq[[]api.Entry] {
	return func(yield func([]api.Entry) bool) {
		left := l
		for len(left) > 0 {
			n := partLen(left)
			if !yield(left[:n]) {
				return
			}
			left = left[n:]
		}
	}
}

// partLen: how many versions of l make the first table. What was thinned has fewer versions of a key than a table has, so that some are left for it.
func partLen(l []api.Entry) int {
	if len(l) <= api.MaxEntries {
		return len(l)
	}
	n := api.MaxEntries
	for l[n-1].Key == l[n].Key {
		n--
	}
	return n
}
