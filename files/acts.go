package files

import (
	"slices"

	"tickler/api"
)

// What an act may be.
const (
	toCreate = iota + 1
	toAppend
	toSync
	toRename
	toRemove
	toSyncNames
)

// act does the act on the state, or refuses it and leaves the state as it is. Only those that take a name away sweep: behind the others each file is still named.
func act(s *State, a api.Act) api.Errno {
	switch a.What {
	case toCreate:
		return create(s, a.Name)
	case toAppend:
		return extend(s, a.Name, a.Data)
	case toSync:
		return syncFile(s, a.Name)
	case toRename:
		return rename(s, a.Name, a.To)
	case toRemove:
		return remove(s, a.Name)
	case toSyncNames:
		return syncNames(s)
	}
	return api.ErrKind
}

func create(s *State, name string) api.Errno {
	if !nameMay(name) {
		return api.ErrName
	}
	i, there := place(s.Names, name)
	if there {
		return api.ErrTwice
	}
	if len(s.Files) == api.MaxFiles || s.Next == maxNext {
		return api.ErrFull
	}
	s.Names = slices.Insert(s.Names, i, Name{Name: name, ID: s.Next})
	s.Files = append(s.Files, File{ID: s.Next})
	s.Next++
	return api.OK
}

func extend(s *State, name string, data []byte) api.Errno {
	i, there := file(*s, name)
	if !there {
		return api.ErrNone
	}
	if len(data) > s.Cap-used(s.Files) {
		return api.ErrFull
	}
	s.Files[i].Data = append(s.Files[i].Data, data...)
	return api.OK
}

func syncFile(s *State, name string) api.Errno {
	i, there := file(*s, name)
	if !there {
		return api.ErrNone
	}
	s.Files[i].Synced = len(s.Files[i].Data)
	return api.OK
}

func rename(s *State, name, to string) api.Errno {
	i, there := place(s.Names, name)
	if !there {
		return api.ErrNone
	}
	if !nameMay(to) {
		return api.ErrName
	}
	if to == name {
		return api.OK
	}
	id := s.Names[i].ID
	s.Names = slices.Delete(s.Names, i, i+1)
	if j, taken := place(s.Names, to); taken {
		s.Names[j].ID = id
	} else {
		s.Names = slices.Insert(s.Names, j, Name{Name: to, ID: id})
	}
	sweep(s)
	return api.OK
}

func remove(s *State, name string) api.Errno {
	i, there := place(s.Names, name)
	if !there {
		return api.ErrNone
	}
	s.Names = slices.Delete(s.Names, i, i+1)
	sweep(s)
	return api.OK
}

func syncNames(s *State) api.Errno {
	s.Safe = fresh(s.Names)
	sweep(s)
	return api.OK
}
