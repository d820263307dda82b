package simfs

import (
	"strings"

	"lanyard/api"
)

const root = "/"

// Good reports whether path is a valid path.
func Good(path string) bool {
	names, rooted := strings.CutPrefix(path, root)
	if !rooted || len(path) > api.MaxPath {
		return false
	}
	for name := range strings.SplitSeq(names, "/") {
		if name == "" || name == "." || name == ".." {
			return false
		}
	}
	return true
}

// below reports whether path, which is valid, lies below dir.
func below(dir, path string) bool {
	rest, ok := strings.CutPrefix(path, dir)
	return ok && (dir == root || strings.HasPrefix(rest, "/"))
}

// entry returns the name, in the listing of dir, of the entry that is or contains the file.
func entry(dir, file string) (string, bool) {
	if !below(dir, file) {
		return "", false
	}
	name, _, deeper := strings.Cut(strings.TrimPrefix(file[len(dir):], "/"), "/")
	if deeper {
		name += "/"
	}
	return name, true
}

// isAbove reports whether there are files below path.
func (f *FS) isAbove(path string) bool {
	for file := range f.files {
		if below(path, file) {
			return true
		}
	}
	return false
}

// obstructed reports whether a file other than except lies above or below path, so that no file can have that path.
func (f *FS) obstructed(path, except string) bool {
	for file := range f.files {
		if file != except && (below(path, file) || below(file, path)) {
			return true
		}
	}
	return false
}

// lookup returns the error of a path that is to be a file's.
func (f *FS) lookup(path string) api.Errno {
	isFile, isDir := f.Is(path)
	switch {
	case isFile:
		return api.OK
	case isDir:
		return api.ErrDir
	}
	return api.ErrNone
}
