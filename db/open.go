package db

import (
	"iter"
	"math"
	"slices"

	"tickler/api"
	"tickler/edit"
	"tickler/files"
	"tickler/manifest"
	"tickler/skip"
	"tickler/wal"
)

// currentName is the file that tells which manifest counts.
const currentName = "CURRENT"

// Open: the store that the files have, whatever a crash left of them.
func Open(f files.State) (State, []api.Act, api.Errno) {
	v, id, e := loaded(f)
	if e != api.OK {
		return State{}, nil, e
	}
	if _, e := tablesOf(f, v); e != api.OK {
		return State{}, nil, e
	}
	c := begun(State{Files: f, Version: v, Manifest: id, Mem: skip.New(), Seq: v.Seq})
	replayed, passed := c.replay()
	log := c.unused(logKind)
	c.settle()
	c.clean(passed)
	laid := c.layTables(0, inParts(replayed))
	c.change(c.editOf(laid, nil, c.Seq))
	c.beginLog(log)
	c.switchOver()
	return c.told()
}

// loaded: the version that the files have, and its manifest's number; where no manifest counts yet, the first version and 0.
func loaded(f files.State) (edit.Version, int, api.Errno) {
	names, e := files.List(f)
	if e != api.OK {
		return edit.Version{}, 0, e
	}
	if !slices.Contains(names, currentName) {
		return edit.New(), 0, api.OK
	}
	return manifest.Load(f)
}

// replay: the versions that the logs have behind those of the tables, as their numbers rise, and the names of the logs of which nothing is taken; Seq is the last number.
func (c *call) replay() ([]api.Entry, []string) {
	var l []api.Entry
	var passed []string
	for _, id := range c.numbers(logKind) {
		name := c.name(logKind, id)
		log, e := files.Read(c.Files, name)
		c.refuse(e)
		taken := c.behind(log)
		if len(taken) == 0 {
			passed = append(passed, name)
		}
		l = append(l, taken...)
	}
	return l, passed
}

// behind: the versions of those batches of a log that begin just behind Seq, which goes on with them.
func (c *call) behind(log []byte) []api.Entry {
	var l []api.Entry
	batches, _ := wal.Replay(log)
	for _, b := range batches {
		if b.Seq != c.Seq+1 {
			continue
		}
		versions, e := wal.Entries(b)
		c.refuse(e)
		l = append(l, versions...)
		c.Seq += len(versions)
	}
	return l
}

// settle makes last what was read, as far as it does not yet: nothing may be done on the word of a file that could still lose its end.
func (c *call) settle() {
	var l []api.Act
	for _, n := range c.Files.Names {
		i := slices.IndexFunc(c.Files.Files, func(f files.File) bool { return f.ID == n.ID })
		if f := c.Files.Files[i]; f.Synced < len(f.Data) {
			l = append(l, api.Act{What: toSync, Name: n.Name})
		}
	}
	c.do(l...)
}

// clean lets go what nobody needs already, ahead of what is laid: what a crash left must not take the room that is wanted now. The logs that were passed over must not outlive the switch, as the new version could make a batch of theirs fit.
func (c *call) clean(passed []string) {
	names, e := manifest.Orphans(c.Files, c.Version, c.Manifest, 0)
	c.refuse(e)
	names = append(names, passed...)
	if len(names) > 0 {
		c.remove(names...)
		c.do(api.Act{What: toSyncNames})
	}
}

// inParts hands out what was replayed as tables take it, each part in order. The older parts come first, so that their tables have the lesser numbers.
func inParts(replayed []api.Entry) iter.Seq[[]api.Entry] {
	return func(yield func([]api.Entry) bool) {
		for part := range slices.Chunk(replayed, api.MaxEntries) {
			slices.SortFunc(part, order)
			if !yield(part) {
				return
			}
		}
	}
}

// order: below 0 if a comes ahead of b, above 0 if it comes behind.
func order(a, b api.Entry) int {
	if skip.Before(a, b) {
		return -1
	}
	if skip.Before(b, a) {
		return 1
	}
	return 0
}

// switchOver begins a new manifest of the version, and lets go what nobody needs behind it: the old manifest, the old logs.
func (c *call) switchOver() {
	c.Manifest = c.unused(manifestKind)
	l, e := manifest.Begin(c.Files, c.Version, c.Manifest)
	c.refuse(e)
	c.do(l...)
	c.remove(c.orphans()...)
	c.do(api.Act{What: toSyncNames})
}

// orphans: the names of the files that nobody needs, if this version, this manifest and this log alone count. As the new log's number need not be the highest, it is not that which tells it from the others.
func (c *call) orphans() []string {
	names, e := manifest.Orphans(c.Files, c.Version, c.Manifest, math.MaxInt)
	c.refuse(e)
	log := c.name(logKind, c.Log)
	return slices.DeleteFunc(names, func(name string) bool { return name == log })
}
