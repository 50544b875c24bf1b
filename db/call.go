package db

import (
	"iter"
	"slices"

	"tickler/api"
	"tickler/edit"
	"tickler/files"
	"tickler/manifest"
	"tickler/table"
)

// What the names of files begin with.
const (
	manifestKind = 'm'
	logKind      = 'l'
	tableKind    = 't'
)

// What the acts on files do, by the numbers that files knows them by.
const (
	toCreate = iota + 1
	toAppend
	toSync
	_
	toRemove
	toSyncNames
)

// call is a store on its way to the next one, with the acts that were done on its files, and why it is refused. Behind a refusal nothing of it counts.
type call struct {
	State
	acts []api.Act
	why  api.Errno
}

// begun: a call on s, in memory of its own.
func begun(s State) *call {
	return &call{State: copied(s)}
}

// told: what the call answers.
func (c *call) told() (State, []api.Act, api.Errno) {
	if c.why != api.OK {
		return State{}, nil, c.why
	}
	return c.State, c.acts, api.OK
}

// refuse: the first error is the call's.
func (c *call) refuse(e api.Errno) {
	if c.why == api.OK {
		c.why = e
	}
}

// do does the acts on the files.
func (c *call) do(l ...api.Act) {
	if c.why != api.OK {
		return
	}
	f, _, e := files.Run(c.Files, l)
	if e != api.OK {
		c.refuse(e)
		return
	}
	c.Files = f
	c.acts = append(c.acts, l...)
}

// remove lets the files of these names go.
func (c *call) remove(names ...string) {
	var l []api.Act
	for _, name := range names {
		l = append(l, api.Act{What: toRemove, Name: name})
	}
	c.do(l...)
}

// name: that of the file of that kind and number. Where there is no such number any more, there is no room.
func (c *call) name(kind byte, id int) string {
	name, e := manifest.Name(kind, id)
	if e != api.OK {
		c.refuse(api.ErrFull)
	}
	return name
}

// names: those of all files.
func (c *call) names() []string {
	l, e := files.List(c.Files)
	c.refuse(e)
	return l
}

// numbers: those of the files of that kind, rising.
func (c *call) numbers(kind byte) []int {
	var l []int
	for _, name := range c.names() {
		if k, id, ok := manifest.Parse(name); ok && k == kind {
			l = append(l, id)
		}
	}
	slices.Sort(l)
	return l
}

// unused: a number that no file of that kind has: above all of theirs, and only where none is left above them a lesser one.
func (c *call) unused(kind byte) int {
	taken := c.numbers(kind)
	if len(taken) == 0 {
		return 1
	}
	if above := taken[len(taken)-1] + 1; isNumber(above) {
		return above
	}
	free := 1
	for slices.Contains(taken, free) {
		free++
	}
	return free
}

// beginLog lays an empty log of that number, which is written from now on.
func (c *call) beginLog(id int) {
	c.Log = id
	c.do(api.Act{What: toCreate, Name: c.name(logKind, id)})
}

// layTables lays a table of each part, all on that level, and tells what is to be told of them. The version does not name them yet.
func (c *call) layTables(level int, parts iter.Seq[[]api.Entry]) []edit.Meta {
	var metas []edit.Meta
	for l := range parts {
		m := edit.Meta{ID: c.Version.Next + len(metas), Level: level, Count: len(l), Low: l[0].Key, High: l[len(l)-1].Key}
		c.layTable(m.ID, l)
		metas = append(metas, m)
	}
	return metas
}

// layTable lays a table of l. A file of its name is nobody's, as the version names none of that number: it goes.
func (c *call) layTable(id int, l []api.Entry) {
	b, e := table.Build(l)
	c.refuse(e)
	name := c.name(tableKind, id)
	if slices.Contains(c.names(), name) {
		c.remove(name)
	}
	c.do(
		api.Act{What: toCreate, Name: name},
		api.Act{What: toAppend, Name: name, Data: b},
		api.Act{What: toSync, Name: name},
	)
}

// editOf: what makes the version have the tables that were laid, and not those of the ids any more; seq is the last number in them.
func (c *call) editOf(laid []edit.Meta, ids []int, seq int) edit.Edit {
	return edit.Edit{Drop: ids, Add: laid, Seq: seq, Next: c.Version.Next + len(laid)}
}

// change makes the version that d makes of it. What is laid and dropped fits to it, so that only its bounds can be in the way.
func (c *call) change(d edit.Edit) {
	v, e := edit.Apply(c.Version, d)
	if e != api.OK {
		c.refuse(api.ErrFull)
		return
	}
	c.Version = v
}

// note makes the change, in the manifest too. The files that it speaks of must last by then.
func (c *call) note(d edit.Edit) {
	c.change(d)
	l, e := manifest.Note(c.Manifest, d)
	c.refuse(e)
	c.do(l...)
}
