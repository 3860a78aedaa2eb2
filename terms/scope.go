package terms

import (
	"errors"
	"strings"

	"statute/api"
)

// pathMark stands between two labels of a path.
const pathMark = "/"

// maxOpened is how many nodes a condition that was opened has at most.
const maxOpened = 2000

// collection is the sentences that were met.
type collection struct {
	placed []Placed
	wrong  []Wrong
}

// take takes the sentences of a provision's lines.
func (c *collection) take(path string, lines []string) {
	for i, line := range lines {
		s, is, err := Read(line)
		var fault *api.Fault
		switch {
		case errors.As(err, &fault):
			c.wrong = append(c.wrong, Wrong{Path: path, Line: i, At: fault.At, Err: fault.Err})
		case is:
			c.placed = append(c.placed, Placed{Path: path, Line: i, Sentence: s})
		}
	}
}

// place of a definition: its provision's path, and its name.
type place [2]string

// definitions are the definitions among sentences, by their places.
type definitions struct {
	sentences []Placed
	at        map[place]int  // their numbers
	longest   map[string]int // by their names: how many bytes a path of theirs has at most
}

func definitionsOf(l []Placed) definitions {
	d := definitions{sentences: l, at: map[place]int{}, longest: map[string]int{}}
	for i, p := range l {
		if p.Sentence.Kind != define {
			continue
		}
		name := p.Sentence.Name
		d.longest[name] = max(d.longest[name], len(p.Path))
		key := place{p.Path, name}
		if other, there := d.at[key]; !there || l[other].Line <= p.Line {
			d.at[key] = i
		}
	}
	return d
}

// find is the definition of a name in the provision at a path: the innermost one around it.
func (d definitions) find(path, name string) (Placed, bool) {
	longest, there := d.longest[name]
	if !there {
		return Placed{}, false
	}
	// A path that is handed over may have any number of labels: those that no definition has are left out at once.
	if len(path) > longest {
		path = around(path[:longest+1])
	}
	for {
		if i, there := d.at[place{path, name}]; there {
			return d.sentences[i], true
		}
		if path == "" {
			return Placed{}, false
		}
		path = around(path)
	}
}

// around is the path of the provision around the one at a path.
func around(path string) string { return path[:max(strings.LastIndex(path, pathMark), 0)] }
