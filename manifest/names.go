package manifest

import "rickyard/api"

// names tells of each name how many files have it.
type names map[string]int

func namesOf(files []File) names {
	n := names{}
	for _, f := range files {
		n[f.Name]++
	}
	return n
}

// drop takes the names of del away, each with all files that have it.
func (n names) drop(del []string) api.Errno {
	for _, name := range del {
		if n[name] == 0 {
			return api.ErrNone
		}
		n[name] = 0
	}
	return api.OK
}

// add lays the names of files to those that are there.
func (n names) add(files []File) api.Errno {
	for _, f := range files {
		if n[f.Name] > 0 {
			return api.ErrTwice
		}
		n[f.Name]++
	}
	return api.OK
}
