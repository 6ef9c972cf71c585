// Package path says where things stand: parts, and paths made of them. Its chapter: shared/doc/01-path.md.
package path

import (
	"strings"

	"hogshead/api"
)

// A layer of a container would take a name that begins so for the mark that something is taken away.
const whiteout = ".wh."

// Part tells whether s may be one part of a path.
func Part(s string) bool {
	if s == "" || len(s) > api.MaxSeg {
		return false
	}
	if s == "." || s == ".." || strings.HasPrefix(s, whiteout) {
		return false
	}
	return strings.IndexByte(s, '/') < 0 && strings.IndexByte(s, 0) < 0
}

// May tells whether p is a path; the empty one is the root.
func May(p string) bool {
	return len(p) <= api.MaxPath && allParts(cut(p))
}

// Split tells the parts of p; none of the root, and of what is no path.
func Split(p string) []string {
	if !May(p) {
		return nil
	}
	return cut(p)
}

// Join tells the path of these parts.
func Join(parts ...string) (string, bool) {
	// Only a few short parts get past this, so that what is joined below is small whatever was handed in.
	if !allParts(parts) {
		return "", false
	}
	p := strings.Join(parts, "/")
	if len(p) > api.MaxPath {
		return "", false
	}
	return p, true
}

// Parent tells the path that p stands in; the root stands in none.
func Parent(p string) (string, bool) {
	if p == "" || !May(p) {
		return "", false
	}
	return p[:max(strings.LastIndexByte(p, '/'), 0)], true
}

// Base tells the last part of p.
func Base(p string) string {
	if !May(p) {
		return ""
	}
	return p[strings.LastIndexByte(p, '/')+1:]
}

// Under tells whether p is dir, or stands somewhere in it.
func Under(p string, dir string) bool {
	if !May(p) || !May(dir) {
		return false
	}
	return p == dir || dir == "" || strings.HasPrefix(p, dir+"/")
}

// cut exists because strings.Split makes one empty piece of the root, which has no parts.
func cut(p string) []string {
	if p == "" {
		return nil
	}
	return strings.Split(p, "/")
}

// allParts looks at the number ahead of the parts, so that a long list costs nothing.
func allParts(parts []string) bool {
	if len(parts) > api.MaxDepth {
		return false
	}
	for _, s := range parts {
		if !Part(s) {
			return false
		}
	}
	return true
}
