package gram

import (
	"strings"

	"frisket/api"
	"frisket/scan"
)

// reader reads lines, one by one, and gathers what they tell.
type reader struct {
	gathered
	line int // the number of the one that is read
}

// Parse is a text's grammar.
func Parse(text string) (*Grammar, int, api.Errno) {
	if len(text) > api.MaxText {
		return nil, 0, api.ErrLong
	}
	r := &reader{}
	for line := range strings.Lines(text) {
		r.line++
		if err := r.read(line); err != api.OK {
			return nil, r.line, err
		}
	}
	return r.grammar()
}

// read reads a line, its newline among it.
func (r *reader) read(line string) api.Errno {
	told, ended := strings.CutSuffix(line, "\n")
	if !ended {
		return api.ErrForm
	}
	if told == "" || told[0] == '#' {
		return api.OK
	}
	told = strings.Clone(told) // lest the names keep all of the text
	words := strings.Split(told, " ")
	switch words[0] {
	case "token", "layout":
		r.classLines = append(r.classLines, told)
		return r.readClass(words)
	case "sort":
		r.sortLines = append(r.sortLines, told)
		return r.readSort(words)
	case "rule":
		r.ruleLines = append(r.ruleLines, told)
		return r.readRule(words)
	case "bracket":
		r.ruleLines = append(r.ruleLines, told)
		return r.readBracket(words)
	}
	return api.ErrForm
}

// readClass reads the words of a class.
func (r *reader) readClass(words []string) api.Errno {
	if len(words) != 3 || !isName(words[1]) {
		return api.ErrForm
	}
	return r.addClass(scan.Class{Name: words[1], Regex: words[2], Layout: words[0] == "layout"})
}

// readSort reads the words of a sort.
func (r *reader) readSort(words []string) api.Errno {
	if len(words) != 2 || !isName(words[1]) {
		return api.ErrForm
	}
	return r.addSort(words[1])
}

// readRule reads the words of a rule.
func (r *reader) readRule(words []string) api.Errno {
	if len(words) < 5 || !isName(words[1]) || words[4] != "=" {
		return api.ErrForm
	}
	level, isLevel := levelOf(words[2])
	cons, isCons := consOf(words[3])
	parts, areParts := wordsOf(words[5:])
	if !isLevel || !isCons || !areParts || cons == "" && !standForOne(parts) {
		return api.ErrForm
	}
	return r.addRule(draft{line: r.line, sort: words[1], cons: cons, level: level, parts: parts})
}

// readBracket reads the words of a bracket.
func (r *reader) readBracket(words []string) api.Errno {
	if len(words) != 4 || !isName(words[1]) {
		return api.ErrForm
	}
	sort := words[1]
	parts, ok := wordsOf([]string{words[2], sort + ":0", words[3]})
	if !ok || parts[0].kind != aLiteral || parts[2].kind != aLiteral {
		return api.ErrForm
	}
	if _, ok := r.brackets.find(sort); ok {
		return api.ErrName
	}
	r.brackets.add(sort)
	return r.addRule(draft{line: r.line, sort: sort, level: strongest, parts: parts})
}
