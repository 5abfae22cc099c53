package words

import (
	"iter"
	"strings"

	"limewash/api"
)

// Split returns the fields of a line.
func Split(line string) ([]api.Field, api.Errno) {
	if len(line) > api.MaxLine {
		return nil, api.ErrLong
	}
	var l []api.Field
	for f, ok := range fields(line) {
		if !ok {
			return nil, api.ErrForm
		}
		l = append(l, f)
	}
	if tooLong(l) {
		return nil, api.ErrLong
	}
	return l, api.OK
}

// Join returns the line of the fields l.
func Join(l []api.Field) (string, api.Errno) {
	if tooLong(l) {
		return "", api.ErrLong
	}
	var line []byte
	for i, f := range l {
		if i > 0 {
			line = append(line, ' ')
		}
		if f.Quoted {
			line = appendQuoted(line, f.S)
		} else if bareEnd(f.S, 0) == len(f.S) && f.S != "" {
			line = append(line, f.S...)
		} else {
			return "", api.ErrForm
		}
	}
	if len(line) > api.MaxLine {
		return "", api.ErrLong
	}
	return string(line), api.OK
}

// Lines returns the lines of a text, without line feeds.
func Lines(text string) ([]string, api.Errno) {
	if len(text) > api.MaxText {
		return nil, api.ErrLong
	}
	if text != "" && !strings.HasSuffix(text, "\n") {
		return nil, api.ErrForm
	}
	if strings.Count(text, "\n") > api.MaxLines {
		return nil, api.ErrLong
	}
	var l []string
	for text != "" {
		line, rest, _ := strings.Cut(text, "\n")
		// A part of the text would share its memory.
		l = append(l, strings.Clone(line))
		text = rest
	}
	return l, api.OK
}

// fields yields the fields of a line with true, up to the first place where it does not consist of fields, which yields false.
func fields(line string) iter.Seq2[api.Field, bool] {
	return func(yield func(api.Field, bool) bool) {
		var f api.Field
		var at int
		var ok bool
		if line == "" {
			return
		}
	next:
		if at < len(line) && line[at] == '"' {
			goto quoted
		}
		f.Quoted = false
		f.S, at, ok = readBare(line, at)
		goto end
	quoted:
		f.Quoted = true
		f.S, at, ok = readQuoted(line, at)
	end:
		if !ok || at < len(line) && line[at] != ' ' {
			yield(api.Field{}, false)
			return
		}
		if !yield(f, true) || at == len(line) {
			return
		}
		at++
		goto next
	}
}

// readBare reads the bare field that begins at line[at]. It returns its string and where it ends.
func readBare(line string, at int) (string, int, bool) {
	end := bareEnd(line, at)
	if end == at {
		return "", 0, false
	}
	// A part of the line would share its memory.
	return strings.Clone(line[at:end]), end, true
}

// bareEnd returns where the bytes that a bare field may have end, from s[at] on.
func bareEnd(s string, at int) int {
	for at < len(s) && isPlain(s[at]) && s[at] != ' ' {
		at++
	}
	return at
}

// tooLong reports whether there are too many fields, or one has too many bytes.
func tooLong(l []api.Field) bool {
	if len(l) > api.MaxFields {
		return true
	}
	for _, f := range l {
		if len(f.S) > api.MaxField {
			return true
		}
	}
	return false
}
