package augur

import (
	"slices"
	"strings"

	"augur/api"
)

// A form is what a line may be.
type form struct {
	shape  string // what stands behind the first word: n a NAME, f a FACT, N and F any number of them, | itself
	there  bool   // is there a net (or program) that can be asked?
	answer func([]part) api.Errno
}

// formOf is the form of the lines that begin with a word.
func (s *session) formOf(word string) (form, bool) {
	hasNet, hasProgram := s.tree != nil, s.prog != nil
	switch word {
	case "show":
		return form{"", hasNet, s.show}, true
	case "prob":
		return form{"F", hasNet, s.prob}, true
	case "best":
		return form{"F", hasNet, s.best}, true
	case "ask":
		return form{"N|F", hasNet, s.ask}, true
	case "do":
		return form{"F|N|F", hasNet, s.do}, true
	case "apart":
		return form{"N|N|N", hasNet, s.apart}, true
	case "door":
		return form{"nn|N", hasNet, s.door}, true
	case "adjust":
		return form{"fn|N", hasNet, s.adjust}, true
	case "tree":
		return form{"", hasNet, s.cliques}, true
	case "know":
		return form{"f", hasNet, s.know}, true
	case "forget":
		return form{"n", hasNet, s.forget}, true
	case "margin":
		return form{"n", hasNet, s.margin}, true
	case "run":
		return form{"", hasProgram, s.run}, true
	case "after":
		return form{"", hasProgram, s.after}, true
	case "diagram":
		return form{"", hasProgram, s.diagram}, true
	}
	return form{}, false
}

// line answers a line that is in no text.
func (s *session) line(line string) {
	words := strings.Split(line, " ")
	f, ok := s.formOf(words[0])
	if !ok {
		s.tell("bad")
		return
	}
	said, ok := cutWords(f.shape, words[1:])
	if !ok {
		s.tell("bad")
		return
	}
	if e := s.question(f, said); e != api.OK {
		s.tellError(e)
	}
}

// question answers a line that is of a form, or says why it can't be.
func (s *session) question(f form, said [][]string) api.Errno {
	if !f.there {
		return api.ErrState
	}
	parts := make([]part, len(said))
	for i, words := range said {
		var e api.Errno
		if parts[i], e = readPart(s.net.Vars, words); e != api.OK {
			return e
		}
	}
	return f.answer(parts)
}

// cutWords parts words as a shape has them, a list for each of its letters; false, if they are not so.
func cutWords(shape string, words []string) ([][]string, bool) {
	var said [][]string
	for _, sign := range []byte(shape) {
		count := wordsOf(sign, words)
		if count < 0 {
			return nil, false
		}
		if sign != '|' {
			said = append(said, words[:count])
		}
		words = words[count:]
	}
	return said, len(words) == 0
}

// wordsOf is how many of the words, from the first on, a shape's sign takes; -1, if it is to have one that is not there.
func wordsOf(sign byte, words []string) int {
	switch sign {
	case 'N':
		return leading(words, isName)
	case 'F':
		return leading(words, isFact)
	}
	if len(words) == 0 {
		return -1
	}
	if sign == 'n' && isName(words[0]) || sign == 'f' && isFact(words[0]) || sign == '|' && words[0] == "|" {
		return 1
	}
	return -1
}

// leading is how many words there are ahead of the first that is not so.
func leading(words []string, is func(string) bool) int {
	if i := slices.IndexFunc(words, func(w string) bool { return !is(w) }); i >= 0 {
		return i
	}
	return len(words)
}

// isName is false of the empty word too: there two blanks stand beside each other, or one at an end.
func isName(word string) bool {
	return word != "" && word != "|" && !strings.Contains(word, "=")
}

func isFact(word string) bool { return strings.Count(word, "=") == 1 }

// A part is names or facts of a line, as numbers.
type part struct {
	vars  []int // rising
	facts []api.Fact
}

// readPart reads the words of a part from the left.
func readPart(vars []api.Var, words []string) (part, api.Errno) {
	var p part
	for _, w := range words {
		name, value, fact := strings.Cut(w, "=")
		v := slices.IndexFunc(vars, func(x api.Var) bool { return x.Name == name })
		if v < 0 {
			return part{}, api.ErrName
		}
		if fact {
			k := slices.Index(vars[v].Values, value)
			if k < 0 {
				return part{}, api.ErrName
			}
			p.facts = append(p.facts, api.Fact{Var: v, Value: k})
			continue
		}
		if slices.Contains(p.vars, v) {
			return part{}, api.ErrDouble
		}
		p.vars = append(p.vars, v)
	}
	slices.Sort(p.vars)
	return p, api.OK
}
