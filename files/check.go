package files

import "tickler/api"

// maxNext is the greatest that Next may be; no file has that number.
const maxNext = 1<<31 - 1

// The octets that a name may have: all that are to be seen.
const (
	firstSeen = 33
	lastSeen  = 126
)

// Check: whether the state may be.
func Check(s State) api.Errno {
	if boundsMay(s) && filesMay(s) && namesMay(s.Names, s.Files) && namesMay(s.Safe, s.Files) && allNamed(s) {
		return api.OK
	}
	return api.ErrState
}

// boundsMay tells whether the numbers of the state itself are in their ranges.
func boundsMay(s State) bool {
	return s.Cap >= 0 && s.Cap <= api.MaxCap && s.Next >= 1 && s.Next <= maxNext && len(s.Files) <= api.MaxFiles
}

// filesMay tells whether the files stand by their numbers, are synced within their lengths, and have room.
func filesMay(s State) bool {
	last := 0
	for _, f := range s.Files {
		if f.ID <= last || f.ID >= s.Next || f.Synced < 0 || f.Synced > len(f.Data) {
			return false
		}
		last = f.ID
	}
	return used(s.Files) <= s.Cap
}

// namesMay tells whether the names rise and stand for files (which filesMay has seen in order), each for one of its own.
func namesMay(l []Name, files []File) bool {
	for i, n := range l {
		if !nameMay(n.Name) || i > 0 && n.Name <= l[i-1].Name {
			return false
		}
		if _, there := numbered(files, n.ID); !there {
			return false
		}
	}
	return len(numbers(l)) == len(l)
}

// allNamed tells whether each file has a name. As each name stands for a file, it is enough to count.
func allNamed(s State) bool {
	return len(numbers(s.Names, s.Safe)) == len(s.Files)
}

// nameMay tells whether a name may be.
func nameMay(name string) bool {
	if len(name) < 1 || len(name) > api.MaxName {
		return false
	}
	for _, x := range []byte(name) {
		if x < firstSeen || x > lastSeen {
			return false
		}
	}
	return true
}

// used: how many octets the files have together.
func used(l []File) int {
	n := 0
	for _, f := range l {
		n += len(f.Data)
	}
	return n
}
